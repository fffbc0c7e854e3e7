/- corollaryref01.Parse, whole: what it answers to any text. Conditions: texts no longer than Go's longest. The document's side: bytes, words, lists of texts. Conditions: texts of at most Go's longest. The document's side: which kind a word is; which sign a text begins with. Conditions: texts of at most Go's longest. The document's list of tokens. Conditions: texts of at most 10000 bytes. The document's list of tokens: its walk. Conditions: texts of at most 10000 bytes. The terms of an expression behind others, by the document. Conditions: lists of at most 100,000 terms. An expression copied into new memory: what is kept of it, and where it lies. Conditions: none. The law's copy of an expression in the document's form. Conditions: at most 30,000 nodes. The document's sole token of a text. Conditions: texts of at most 4,000 bytes. Lists copied into new memory: what is kept of each element, and where it lies. Conditions: none. -/
import Derived.Test.YtikohamfnnlhcaaGreatDoorScB
import Derived.Lib.IndexBytes
import Derived.Test.YtikohamfnnlhcaaGreatDoorPcLexK
import Derived.Test.YtikohamfnnlhcaaGreatDoorPcTermM
import Derived.Test.YtikohamfnnlhcaaGreatDoorScD
import Derived.Maps.AppendAt
import Derived.Laws.AppendOwnNone
import Derived.OwnWalk
import Derived.Deep.RegionLaw
namespace Go.Proofs.YtikohamfnnlhcaaGreatDoor
open Go.RowKit

theorem headOk_ne {neg : Bool} {T : ByteArray} (h0 : 0 < T.size) (h : ((T[0].toNat : Int) == 48) = false) : HeadOk neg T := by
  rintro ⟨x, _⟩
  have e : T.data.toList.head? = some T[0] := by
    rw [List.head?_eq_getElem?]
    simp [h0]; rfl
  rw [e] at x
  have := Option.some.inj x
  rw [this] at h
  simp at h
theorem head_eq {T : ByteArray} (h0 : 0 < T.size) {k : UInt8} (h : ((T[0].toNat : Int) == k.toNat) = true) : T.data.toList.head? = some k := by
  have e : T.data.toList.head? = some T[0] := by
    rw [List.head?_eq_getElem?]
    simp [h0]; rfl
  rw [e]
  congr 1
  apply UInt8.toNat_inj.1
  have := beq_iff_eq.1 h
  omega
theorem head_neq {T : ByteArray} (h0 : 0 < T.size) {k : UInt8} (h : ((T[0].toNat : Int) == k.toNat) = false) : T.data.toList.head? ≠ some k := by
  have e : T.data.toList.head? = some T[0] := by
    rw [List.head?_eq_getElem?]
    simp [h0]; rfl
  rw [e]
  intro x
  rw [Option.some.inj x] at h
  simp at h

theorem refParse_any (s : ByteArray) (w : World) (hs : s.size ≤ maxLen) (hm : isName s.data.toList = false) :
    Calls Tryz.prog 160 #[.string s] w fun e w' => e = .returned (outV (pv s.data.toList)) ∧ Below w.heap.size w w' := by
  by_cases h0 : 0 < s.size
  · cases h45 : ((s[0].toNat : Int) == 45) with
    | true =>
      have hh := head_eq (k := 45) h0 h45
      obtain ⟨T, hte⟩ : ∃ T, s.extract 1 s.size = T := ⟨_, rfl⟩
      have hd : T.data.toList = s.data.toList.tail := by
        rw [← hte, Lib.extract_to_end]; simp
      have hTs : T.size ≤ s.size := by
        have h1 : T.size = T.data.toList.length := by simp
        rw [h1, hd, List.length_tail]; simp
      have hT : T.size ≤ maxLen := Nat.le_trans hTs hs
      have e : pv s.data.toList = signed true (pnum true T.data.toList) := by
        unfold pv; rw [if_pos hh, hd]
      rw [e]
      by_cases h1 : T.size = 0
      · exact ref_neg_none s T w hs hm hT h0 h45 hte h1
      · have h0T : 0 < T.size := by omega
        by_cases h2 : 10 < T.size
        · exact ref_neg_long s T w hs hm hT h0 h45 hte h0T (by omega)
        · cases h48 : ((T[0].toNat : Int) == 48) with
          | true => exact ref_neg_zero s T w hs hm hT h0 h45 hte h0T (by omega) h48 (fun x => x ⟨head_eq (k := 48) h0T h48, .inr rfl⟩)
          | false => exact ref_neg_loop s T w hs hm hT h0 h45 hte h0T (by omega) h48 (headOk_ne h0T h48)
    | false =>
      have hh := head_neq (k := 45) h0 h45
      have e : pv s.data.toList = signed false (pnum false s.data.toList) := by
        unfold pv; rw [if_neg hh]
      rw [e]
      by_cases h2 : 10 < s.size
      · exact ref_pos_long s w hs hm hs h0 h45 (by omega)
      · cases h48 : ((s[0].toNat : Int) == 48) with
        | true =>
          by_cases h1 : 1 < s.size
          · exact ref_pos_zero s w hs hm hs h0 h45 (by omega) h48 (by omega) (fun x => x ⟨head_eq (k := 48) h0 h48, .inl (by rw [size_len]; exact h1)⟩)
          · refine ref_pos_one s w hs hm hs h0 h45 (by omega) h48 (by omega) ?_
            rintro ⟨_, y | y⟩
            · rw [size_len] at y; omega
            · cases y
        | false => exact ref_pos_loop s w hs hm hs h0 h45 (by omega) h48 (headOk_ne h0 h48)
  · obtain rfl := empty_of (s := s) (by omega)
    exact ref_empty w hs hm hs

end Go.Proofs.YtikohamfnnlhcaaGreatDoor

namespace Go.Proofs.YtikohamfnnlhcaaGreatDoor
open Go.RowKit Go.Deep Go.Shelf

/-- the ways of a byte, as the document asks for them. -/
theorem ins_cases (c : UInt8) : (97 ≤ (c.toNat : Int) ∧ (c.toNat : Int) ≤ 122 ∧ wb c = true) ∨
    ((¬ 97 ≤ (c.toNat : Int) ∨ ¬ (c.toNat : Int) ≤ 122) ∧ ((65 ≤ (c.toNat : Int) ∧ (c.toNat : Int) ≤ 90 ∧ wb c = true) ∨ (¬ 65 ≤ (c.toNat : Int) ∨ ¬ (c.toNat : Int) ≤ 90) ∧ (48 ≤ (c.toNat : Int) ∧ (c.toNat : Int) ≤ 57 ∧ wb c = true ∨ (¬ 48 ≤ (c.toNat : Int) ∨ ¬ (c.toNat : Int) ≤ 57) ∧ wb c = ((c.toNat : Int) == 95)))) := by
  rcases wb_cases c with h | ⟨h1, ⟨h2, h⟩ | ⟨h2, h3⟩⟩
  · exact .inl h
  · simp only [upB, Bool.and_eq_true, decide_eq_true_eq] at h2
    exact .inr ⟨h1, .inl ⟨h2.1, h2.2, h⟩⟩
  · refine .inr ⟨h1, .inr ⟨?_, h3⟩⟩
    by_cases h65 : 65 ≤ (c.toNat : Int)
    · refine .inr fun h90 => ?_
      simp [upB, h65, h90] at h2
    · exact .inl h65

set_option maxRecDepth 100000 in
set_option maxHeartbeats 1000000 in
theorem inside_any (c : UInt8) (w : World) :
    Calls Tryz.prog 143 #[.int .u8 c.toNat] w fun e w' => e = .returned (.bool (wb c)) ∧ w = w' := by
  rcases ins_cases c with ⟨h1, h2, h⟩ | ⟨h1, ⟨h2, h3, h⟩ | ⟨h2, ⟨h3, h4, h⟩ | ⟨h3, h⟩⟩⟩
  · rw [h]; clear h
    go_enter Tryz.func143, Tryz.ntmps143
    go_wp2
    go_ret
    exact ⟨rfl, rfl⟩
  · rw [h]; clear h
    rcases h1 with h1 | h1
    all_goals
      go_enter Tryz.func143, Tryz.ntmps143
      go_wp2
    all_goals
      go_ret
      exact ⟨rfl, rfl⟩
  · rw [h]; clear h
    rcases h1 with h1 | h1 <;> rcases h2 with h2 | h2
    all_goals
      go_enter Tryz.func143, Tryz.ntmps143
      go_wp2
    all_goals
      go_ret
      exact ⟨ret_bool (by simp; try omega), rfl⟩
  · have H := Lib.hid h
    clear h
    rcases h1 with h1 | h1 <;> rcases h2 with h2 | h2 <;> rcases h3 with h3 | h3
    all_goals
      go_enter Tryz.func143, Tryz.ntmps143
      go_wp2
    all_goals
      go_ret
      exact ⟨ret_bool (by have e := H.out; rw [e]; try (simp; try omega)), rfl⟩
theorem inside_is (c : UInt8) (b : Bool) (h : wb c = b) (w : World) : Calls Tryz.prog 143 #[.int .u8 c.toNat] w fun e w' => e = .returned (.bool b) ∧ w = w' := by
  rw [← h]; exact inside_any c w

/-- texts that lie in a row. -/
def SRow (w : World) (b o : Nat) (L : List (List UInt8)) : Prop := ∀ (i : Nat) x, L[i]? = some x → w.cell? ⟨b, o + i, none⟩ = some (.string (bts x))
/-- is it one of them? -/
def inB (L : List (List UInt8)) (l : List UInt8) : Bool := L.contains l
theorem in_yes {L : List (List UInt8)} {l : List UInt8} {k : Nat} (hk : k < L.length) (h : l = L[k]) : inB L l = true := by
  unfold inB
  rw [List.contains_iff_mem, h]
  exact List.getElem_mem hk
theorem in_no {L : List (List UInt8)} {l : List UInt8} (h : ∀ j (hj : j < L.length), l ≠ L[j]) : inB L l = false := by
  cases hc : inB L l with
  | false => rfl
  | true =>
    unfold inB at hc
    rw [List.contains_iff_mem] at hc
    obtain ⟨j, hj, e⟩ := List.mem_iff_getElem.1 hc
    exact absurd e.symm (h j hj)

set_option maxRecDepth 100000 in
set_option maxHeartbeats 1000000 in
theorem in_any (b o c : Nat) (L : List (List UInt8)) (s : ByteArray) (w : World) (hl : L.length ≤ 100) (hr : SRow w b o L) :
    Calls Tryz.prog 145 #[.slice (some ⟨b, o, none⟩) L.length c, .string s] w fun e w' => e = .returned (.bool (inB L s.data.toList)) ∧ w = w' := by
  have HR := Lib.hid hr
  clear hr
  go_enter Tryz.func145, Tryz.ntmps145
  go_wp2
  go_loop [5] (fun i => ∃ k : Nat, k ≤ L.length ∧ i = .int .i64 k ∧ Hid (∀ j (hj : j < L.length), j < k → s.data.toList ≠ L[j])) (fun i => L.length - (intOf i).toNat)
  case atStart => exact ⟨0, Nat.zero_le _, rfl, fun _ _ h => absurd h (by omega)⟩
  case round =>
    obtain ⟨k, hk, rfl, HK⟩ := hrel
    by_cases hlt : k < L.length
    · have hx := HR.out k _ (List.getElem?_eq_getElem hlt)
      by_cases he : s.data.toList = L[k]
      · have HQ := Lib.hid (in_yes hlt he)
        have h1 : (L[k] == s.toList) = true := by rw [Lib.toList_data, he]; simp
        clear he HK
        generalize L[k] = t at hx h1
        go_wp2
        go_ret
        exact ⟨ret_bool HQ.out.symm, rfl⟩
      · have HQ : Hid (∀ j (hj : j < L.length), j < k + 1 → s.data.toList ≠ L[j]) := fun j hj h => by
          by_cases h2 : j = k
          · subst h2; exact he
          · exact HK.out j hj (by omega)
        have h1 : (L[k] == s.toList) = false := by rw [Lib.toList_data]; simpa using fun h => he h.symm
        clear he HK
        generalize L[k] = t at hx h1
        go_wp2
        go_round
        case rel => exact ⟨k + 1, by omega, by go_num, HQ⟩
        case measure => simp [intOf]; omega
    · have HQ := Lib.hid (in_no fun j hj => HK.out j hj (by omega))
      go_wp2
      go_ret
      exact ⟨ret_bool HQ.out.symm, rfl⟩
end Go.Proofs.YtikohamfnnlhcaaGreatDoor

namespace Go.Proofs.YtikohamfnnlhcaaGreatDoor
open Go.RowKit Go.Deep Go.Shelf

theorem var_ways (s : ByteArray) (h0 : 0 < s.size) : varB s.data.toList = true ∧ (65 : Int) ≤ (s[0].toNat : Int) ∧ (s[0].toNat : Int) ≤ 90 ∧ (s.size : Int) ≤ 32 ∨ varB s.data.toList = false ∧ (¬ (65 : Int) ≤ (s[0].toNat : Int) ∨ ((65 : Int) ≤ (s[0].toNat : Int) ∧ ¬ (s[0].toNat : Int) ≤ 90) ∨ ((65 : Int) ≤ (s[0].toNat : Int) ∧ (s[0].toNat : Int) ≤ 90 ∧ ¬ (s.size : Int) ≤ 32)) := by
  have HV : varB s.data.toList = (upB s[0] && decide ((s.size : Int) ≤ 32)) := by
    have e := drop_at s h0
    rw [List.drop_zero] at e
    have hz : s.data.toList.length = s.size := by simp
    rw [← hz]
    conv => lhs; rw [e]
    simp only [varB]
    congr 1
    rw [← e]
  rw [HV]
  by_cases h65 : (65 : Int) ≤ (s[0].toNat : Int)
  · by_cases h90 : (s[0].toNat : Int) ≤ 90
    · by_cases h32 : (s.size : Int) ≤ 32
      · exact .inl ⟨by simp [upB, h65, h90, h32], h65, h90, h32⟩
      · exact .inr ⟨by simp [h32], .inr (.inr ⟨h65, h90, h32⟩)⟩
    · exact .inr ⟨by simp [upB, h90], .inr (.inl ⟨h65, h90⟩)⟩
  · exact .inr ⟨by simp [upB, h65], .inl h65⟩
theorem inB_key (l : List UInt8) : inB keysL l = keyB l := rfl

set_option maxRecDepth 100000 in
set_option maxHeartbeats 2000000 in
theorem word_any (s : ByteArray) (w : World) (hs : s.size ≤ maxLen) (h0 : 0 < s.size) :
    Calls Tryz.prog 144 #[.string s] w fun e w' => e = .returned (.int .i64 (kindW s.data.toList)) ∧ Below w.heap.size w w' := by
  have hO : Own (w.alloc (.cells #[.string (bts [114,101,108]), .string (bts [105,110,116]), .string (bts [115,121,109]), .string (bts [110,111,116]), .string (bts [99,111,117,110,116]), .string (bts [115,117,109]), .string (bts [109,105,110]), .string (bts [109,97,120])] 9)) w.heap.size 9 (keysL.map fun l => .string (bts l)) := heap_alloc_new w _
  have hB0 : Below w.heap.size w (w.alloc (.cells #[.string (bts [114,101,108]), .string (bts [105,110,116]), .string (bts [115,121,109]), .string (bts [110,111,116]), .string (bts [99,111,117,110,116]), .string (bts [115,117,109]), .string (bts [109,105,110]), .string (bts [109,97,120])] 9)) := (Below.refl _ _).alloc (Nat.le_refl _) _
  have hw0 : ∃ w0, w0 = (w.alloc (.cells #[.string (bts [114,101,108]), .string (bts [105,110,116]), .string (bts [115,121,109]), .string (bts [110,111,116]), .string (bts [99,111,117,110,116]), .string (bts [115,117,109]), .string (bts [109,105,110]), .string (bts [109,97,120])] 9)) := ⟨_, rfl⟩
  obtain ⟨w0, hw0⟩ := hw0
  rw [← hw0] at hO hB0
  have HI := Lib.hid (in_any w.heap.size 0 8 keysL s w0 (by decide) (fun i x hx => by rw [Nat.zero_add, hO.cell, List.getElem?_map, hx]; rfl))
  rw [inB_key] at HI
  have HW := Lib.hid hw0
  have B0 := Lib.hid hB0
  have HVW := Lib.hid (var_ways s h0)
  have hs' := hs
  unfold maxLen at hs
  clear hO hB0 hw0
  cases h1 : keyB s.data.toList with
  | true =>
    have HQ : Hid (kindW s.data.toList = 1) := by show _ = _; simp [kindW, h1]
    rw [h1] at HI
    clear h1 HVW
    go_enter Tryz.func144, Tryz.ntmps144
    go_wp2_with fail
    rw [← HW.out]
    refine HI.out.mono ?_
    rintro e w1 ⟨rfl, rfl⟩
    go_wp2
    go_ret
    exact ⟨by rw [HQ.out]; rfl, B0.out⟩
  | false =>
    rw [h1] at HI
    cases h2 : isName s.data.toList with
    | true =>
      have HQ : Hid (kindW s.data.toList = 2) := by show _ = _; simp [kindW, h1, h2]
      have HN := Lib.hid (refName_is s true h2 hs' w0)
      clear h1 h2 HVW
      go_enter Tryz.func144, Tryz.ntmps144
      go_wp2_with fail
      rw [← HW.out]
      refine HI.out.mono ?_
      rintro e w1 ⟨rfl, rfl⟩
      go_wp2_with fail
      refine HN.out.mono ?_
      rintro e w1 ⟨rfl, rfl⟩
      go_wp2
      go_ret
      exact ⟨by rw [HQ.out]; rfl, B0.out⟩
    | false =>
      have HN := Lib.hid (refName_is s false h2 hs' w0)
      rcases HVW.out with ⟨hv, v1, v2, v3⟩ | ⟨hv, hv2⟩
      · have HQ : Hid (kindW s.data.toList = 3) := by show _ = _; simp [kindW, h1, h2, hv]
        clear h1 h2 HVW hv
        go_enter Tryz.func144, Tryz.ntmps144
        go_wp2_with fail
        rw [← HW.out]
        refine HI.out.mono ?_
        rintro e w1 ⟨rfl, rfl⟩
        go_wp2_with fail
        refine HN.out.mono ?_
        rintro e w1 ⟨rfl, rfl⟩
        go_wp2
        go_ret
        exact ⟨by rw [HQ.out]; rfl, B0.out⟩
      · have HP := Lib.hid (refParse_any s w0 hs' h2)
        cases h4 : pv s.data.toList with
        | some n =>
          have HQ : Hid (kindW s.data.toList = 4) := by show _ = _; simp [kindW, h1, h2, hv, h4]
          rw [h4] at HP
          simp only [outV] at HP
          clear h1 h2 HVW hv h4
          rcases hv2 with v | ⟨v, v'⟩ | ⟨v, v', v''⟩
          all_goals
            go_enter Tryz.func144, Tryz.ntmps144
            go_wp2_with fail
            rw [← HW.out]
            refine HI.out.mono ?_
            rintro e w1 ⟨rfl, rfl⟩
            go_wp2_with fail
            refine HN.out.mono ?_
            rintro e w1 ⟨rfl, rfl⟩
            go_wp2_with fail
            refine HP.out.mono ?_
            rintro e w2 ⟨rfl, b2⟩
            have B2 := Lib.hid (B0.out.trans (b2.mono B0.out.size))
            clear b2
            go_wp2
            go_ret
            exact ⟨by rw [HQ.out]; rfl, B2.out.alloc B2.out.size _⟩
        | none =>
          have HQ : Hid (kindW s.data.toList = 0) := by show _ = _; simp [kindW, h1, h2, hv, h4]
          rw [h4] at HP
          simp only [outV] at HP
          clear h1 h2 HVW hv h4
          rcases hv2 with v | ⟨v, v'⟩ | ⟨v, v', v''⟩
          all_goals
            go_enter Tryz.func144, Tryz.ntmps144
            go_wp2_with fail
            rw [← HW.out]
            refine HI.out.mono ?_
            rintro e w1 ⟨rfl, rfl⟩
            go_wp2_with fail
            refine HN.out.mono ?_
            rintro e w1 ⟨rfl, rfl⟩
            go_wp2_with fail
            refine HP.out.mono ?_
            rintro e w2 ⟨rfl, b2⟩
            have B2 := Lib.hid (B0.out.trans (b2.mono B0.out.size))
            clear b2
            go_wp2
            go_ret
            exact ⟨by rw [HQ.out]; rfl, B2.out.alloc B2.out.size _⟩

/-- the signs of two bytes, and of one. -/
def twoL : List (List UInt8) := [[58,45],[33,61],[60,61],[62,61]]
def oneL : List (List UInt8) := [[40],[41],[44],[46],[61],[60],[62],[43],[45],[42]]
theorem pre_two {a b : UInt8} {l : List UInt8} : ([a, b] : List UInt8).isPrefixOf l = (l.take 2 == [a, b]) := by
  match l with
  | [] => rfl
  | [c] => simp [List.isPrefixOf]
  | c :: d :: r =>
    simp only [List.isPrefixOf, List.take_succ_cons, List.take_zero]
    rw [Bool.eq_iff_iff]
    simp only [Bool.and_eq_true, beq_iff_eq, List.cons.injEq, and_true]
    exact ⟨fun h => ⟨h.1.symm, h.2.symm⟩, fun h => ⟨h.1.symm, h.2.symm⟩⟩
theorem pre_one {a : UInt8} {l : List UInt8} : ([a] : List UInt8).isPrefixOf l = (l.take 1 == [a]) := by
  match l with
  | [] => rfl
  | c :: r =>
    simp only [List.isPrefixOf, List.take_succ_cons, List.take_zero]
    rw [Bool.eq_iff_iff]
    simp only [Bool.and_eq_true, beq_iff_eq, List.cons.injEq, and_true]
    exact ⟨fun h => h.symm, fun h => h.symm⟩
theorem signOf_eq (l : List UInt8) : signOf l = if inB twoL (l.take 2) = true then some (l.take 2) else if inB oneL (l.take 1) = true then some (l.take 1) else none := by
  unfold signOf signsL inB twoL oneL
  simp only [List.find?_cons, List.find?_nil, pre_two, pre_one, List.contains_cons, List.contains_nil, Bool.or_false]
  generalize l.take 2 = x
  generalize l.take 1 = y
  by_cases a1 : x = [58, 45]
  · subst a1; rfl
  by_cases a2 : x = [33, 61]
  · subst a2; rfl
  by_cases a3 : x = [60, 61]
  · subst a3; rfl
  by_cases a4 : x = [62, 61]
  · subst a4; rfl
  have e1 : (x == [58, 45]) = false := by simpa using a1
  have e2 : (x == [33, 61]) = false := by simpa using a2
  have e3 : (x == [60, 61]) = false := by simpa using a3
  have e4 : (x == [62, 61]) = false := by simpa using a4
  simp only [e1, e2, e3, e4, Bool.or_self, Bool.false_eq_true, if_false]
  by_cases b1 : y = [40]
  · subst b1; rfl
  by_cases b2 : y = [41]
  · subst b2; rfl
  by_cases b3 : y = [44]
  · subst b3; rfl
  by_cases b4 : y = [46]
  · subst b4; rfl
  by_cases b5 : y = [61]
  · subst b5; rfl
  by_cases b6 : y = [60]
  · subst b6; rfl
  by_cases b7 : y = [62]
  · subst b7; rfl
  by_cases b8 : y = [43]
  · subst b8; rfl
  by_cases b9 : y = [45]
  · subst b9; rfl
  by_cases b10 : y = [42]
  · subst b10; rfl
  have f1 : (y == [40]) = false := by simpa using b1
  have f2 : (y == [41]) = false := by simpa using b2
  have f3 : (y == [44]) = false := by simpa using b3
  have f4 : (y == [46]) = false := by simpa using b4
  have f5 : (y == [61]) = false := by simpa using b5
  have f6 : (y == [60]) = false := by simpa using b6
  have f7 : (y == [62]) = false := by simpa using b7
  have f8 : (y == [43]) = false := by simpa using b8
  have f9 : (y == [45]) = false := by simpa using b9
  have f10 : (y == [42]) = false := by simpa using b10
  simp only [f1, f2, f3, f4, f5, f6, f7, f8, f9, f10, Bool.or_self, Bool.false_eq_true, if_false]
theorem kind_under (r : List UInt8) : kindW (95 :: r) = 0 := by
  have h1 : keyB (95 :: r) = false := by
    cases h : keyB (95 :: r) with
    | false => rfl
    | true =>
      unfold keyB keysL at h
      simp at h
  have h2 : isName (95 :: r) = false := by
    unfold isName
    have : okFrom (95 :: r) = false := by simp [okFrom, isLet]
    simp [this]
  have h3 : varB (95 :: r) = false := by
    have : upB 95 = false := by decide
    simp [varB, this]
  have h4 : pv (95 :: r) = none := by
    have hd : Lib.decFrom 0 (95 :: r) = none := by simp [Lib.decFrom, Lib.digitVal]
    simp [pv, pnum, hd, signed]
  simp [kindW, h1, h2, h3, h4]
end Go.Proofs.YtikohamfnnlhcaaGreatDoor

namespace Go.Proofs.YtikohamfnnlhcaaGreatDoor
open Go.RowKit Go.Deep Go.Shelf

theorem infoRt : (Tryz.prog.info? 178).map (fun i => (i.zero, i.size, i.bytes)) = some (some (.agg #[.int .i64 0, .string noText, .int .i64 0]), 3, 32) := by kernel_rfl
/-- the list, between two rounds at offset o. -/
def RfA (w : World) (s : ByteArray) (R : List Tk × Option Nat) (o : Nat) (pre : List Tk) (G : List Nat) (v : Value) (W : World) : Prop :=
  TArr 178 W v pre G ∧ (∀ g ∈ G, w.heap.size ≤ g) ∧ Below w.heap.size w W ∧ pre ++ (lexA kindW o (s.data.toList.drop o)).1 = R.1 ∧ (lexA kindW o (s.data.toList.drop o)).2 = R.2 ∧ pre.length ≤ o
def RfI (w : World) (s : ByteArray) (R : List Tk × Option Nat) (o : Nat) (v : Value) (W : World) : Prop := ∃ pre G, RfA w s R o pre G v W
theorem RfA.below {w : World} {s : ByteArray} {R : List Tk × Option Nat} {o : Nat} {pre : List Tk} {G : List Nat} {v : Value} {W W' : World} (h : RfA w s R o pre G v W) (hb : Below W.heap.size W W') : RfA w s R o pre G v W' := by
  obtain ⟨h1, h2, h3, h4⟩ := h
  exact ⟨h1.kept (Kept.of [] hb) (fun _ _ h => by cases h), h2, h3.trans (hb.mono h3.size), h4⟩
theorem RfA.skip {w : World} {s : ByteArray} {R : List Tk × Option Nat} {o : Nat} {pre : List Tk} {G : List Nat} {v : Value} {W : World} (h : RfA w s R o pre G v W) (k : Nat) (hk : skipN false (s.data.toList.drop o) = k + skipN false ((s.data.toList.drop o).drop k)) : RfA w s R (o + k) pre G v W := by
  obtain ⟨h1, h2, h3, h4, h5, h6⟩ := h
  rw [lexA_skip o _ k hk, List.drop_drop] at h4 h5
  exact ⟨h1, h2, h3, h4, h5, by omega⟩
theorem RfA.push {w : World} {s : ByteArray} {R : List Tk × Option Nat} {o q n g cap : Nat} {t : List UInt8} {pre : List Tk} {G : List Nat} {v : Value} {W w1 : World} {tmp : Obj} (h : RfA w s R o pre G v W)
    (h0 : skipN false (s.data.toList.drop o) = 0) (hn : s.data.toList.drop o ≠ []) (ht : tokOf kindW (s.data.toList.drop o) = some (q, t))
    (ho : w1.ownsRow 0 178 3 (.slice (some ⟨g, 0, none⟩) n cap) n (flatT pre ++ tkC (q, t, o))) (hg : (W.alloc tmp).grownBy w1 v.ownBlock) (hat : (Value.slice (some ⟨g, 0, none⟩) n cap).ownBlock = v.ownBlock ∨ (Value.slice (some ⟨g, 0, none⟩) n cap).ownBlock = some (W.alloc tmp).heap.size) :
    RfI w s R (o + t.length) (.slice (some ⟨g, 0, none⟩) n cap) w1 := by
  obtain ⟨h1, h2, h3, h4, h5, h6⟩ := h
  have hbl := h1.block
  have kw1 : Kept G W w1 := ((Kept.refl G W).alloc tmp).trans (Kept.grown hg hbl) (fun k hk => .inl hk)
  rw [lexA_tok (by rw [h0]; exact hn) (by rw [h0]; exact ht), h0] at h4 h5
  simp only [Nat.add_zero, List.drop_drop] at h4 h5
  have htl := (tok_text ht).1
  have hl0 : 0 < t.length := List.length_pos_iff.2 htl
  refine ⟨pre ++ [(q, t, o)], [g], TArr.of_owns (by rw [flatT_snoc]; exact ho), fun k hk => ?_, h3.trans (kw1.below h3.size h2), by rw [List.append_assoc]; exact h4, h5, by simp; omega⟩
  simp only [List.mem_singleton] at hk
  subst hk
  rcases hat with h | h
  · exact h2 _ (hbl _ h.symm)
  · injection h with h
    have := h3.size
    simp at h
    omega
/-- what List answers, the document's. -/
def RlPost (w : World) (R : List Tk × Option Nat) (e : Ending) (w' : World) : Prop :=
  ∃ A c, e = .returned (.tuple #[.slice A R.1.length c, .int .i64 (match R.2 with | none => -1 | some p => (p : Int))]) ∧ TRow w' A R.1 ∧ Below w.heap.size w w'
theorem RfA.fin {w : World} {s : ByteArray} {R : List Tk × Option Nat} {o : Nat} {pre : List Tk} {G : List Nat} {v : Value} {W : World} (h : RfA w s R o pre G v W) (he : s.data.toList.drop o = []) :
    RlPost w R (.returned (.tuple #[v, .int .i64 (-1)])) W := by
  obtain ⟨h1, h2, h3, h4, h5, h6⟩ := h
  rw [he, lexA_end rfl] at h4 h5
  simp only [List.append_nil] at h4 h5
  obtain ⟨A, c, rfl, _, hr⟩ := h1.row
  rw [h4] at hr
  exact ⟨A, c, by rw [← h5, h4], hr, h3⟩
theorem RfA.bad {w : World} {s : ByteArray} {R : List Tk × Option Nat} {o : Nat} {pre : List Tk} {G : List Nat} {v : Value} {W : World} (h : RfA w s R o pre G v W)
    (h0 : skipN false (s.data.toList.drop o) = 0) (hn : s.data.toList.drop o ≠ []) (ht : tokOf kindW (s.data.toList.drop o) = none) :
    RlPost w R (.returned (.tuple #[v, .int .i64 (o : Int)])) W := by
  obtain ⟨h1, h2, h3, h4, h5, h6⟩ := h
  rw [lexA_bad (by rw [h0]; exact hn) (by rw [h0]; exact ht), h0] at h4 h5
  simp only [List.append_nil, Nat.add_zero] at h4 h5
  obtain ⟨A, c, rfl, _, hr⟩ := h1.row
  rw [h4] at hr
  exact ⟨A, c, by rw [← h5, h4], hr, h3⟩
theorem tok_sign {c : UInt8} {r : List UInt8} (h : wb c = false ∨ c = 95) : tokOf kindW (c :: r) = (signOf (c :: r)).map fun p => (5, p) := by
  rcases h with h | rfl
  · unfold tokOf
    rw [if_pos (by simp [h])]
  · have e1 : (95 :: r : List UInt8).takeWhile wb = 95 :: r.takeWhile wb := by
      rw [List.takeWhile_cons, if_pos (by decide)]
    have e2 : signOf (95 :: r) = none := by
      rw [signOf_eq]
      rw [if_neg, if_neg]
      · simp [inB, oneL]
      · cases r <;> simp [inB, twoL]
    unfold tokOf
    rw [e1, if_neg (by simp), if_pos (kind_under _), e2]
    rfl
theorem tok_word {l : List UInt8} (h : l.takeWhile wb ≠ []) : tokOf kindW l = if kindW (l.takeWhile wb) = 0 then none else some (kindW (l.takeWhile wb), l.takeWhile wb) := by
  unfold tokOf
  rw [if_neg h]
theorem len_two {l : List UInt8} (h : inB twoL (l.take 2) = true) : 2 ≤ l.length := by
  match l with
  | [] => simp [inB, twoL] at h
  | [c] => simp [inB, twoL] at h
  | _ :: _ :: r => simp
theorem len_one {l : List UInt8} (h : inB oneL (l.take 1) = true) : (l.take 1).length = 1 := by
  match l with
  | [] => simp [inB, oneL] at h
  | c :: r => simp
end Go.Proofs.YtikohamfnnlhcaaGreatDoor

namespace Go.Proofs.YtikohamfnnlhcaaGreatDoor
open Go.RowKit Go.Deep Go.Shelf

theorem ref_part (s : ByteArray) (e a : Nat) : (s.extract e a).data.toList = (s.data.toList.drop e).take (a - e) := by
  simp
theorem line_get : ∀ (l : List UInt8) (j : Nat) (hj : j < l.length), (j < lineN l → lfB l[j] = false) ∧ (j = lineN l → lfB l[j] = true)
  | c :: r, j, hj => by
    by_cases h : lfB c = true
    · have e : lineN (c :: r) = 0 := by simp [lineN, h]
      rw [e]
      refine ⟨fun h0 => absurd h0 (by omega), ?_⟩
      rintro rfl
      exact h
    · have e : lineN (c :: r) = lineN r + 1 := by simp [lineN, h]
      rw [e]
      match j with
      | 0 => exact ⟨fun _ => by simpa using h, fun h0 => by omega⟩
      | j + 1 =>
        have ih := line_get r j (by simpa using hj)
        exact ⟨fun h0 => ih.1 (by omega), fun h0 => ih.2 (by omega)⟩
theorem line_no {s : ByteArray} {o j : Nat} (hj : j < lineN (s.data.toList.drop o)) (h : o + j < s.size) : ((s[o + j].toNat : Int) != 10) = true := by
  have hl : j < (s.data.toList.drop o).length := by simp; omega
  have h1 := (line_get _ j hl).1 hj
  rw [List.getElem_drop] at h1
  have h2 : lfB s[o + j] = false := h1
  simpa [lfB, bne] using h2
theorem line_yes {s : ByteArray} {o : Nat} (h : o + lineN (s.data.toList.drop o) < s.size) : ((s[o + lineN (s.data.toList.drop o)].toNat : Int) != 10) = false := by
  have hl : lineN (s.data.toList.drop o) < (s.data.toList.drop o).length := by simp; omega
  have h1 := (line_get _ _ hl).2 rfl
  rw [List.getElem_drop] at h1
  have h2 : lfB s[o + lineN (s.data.toList.drop o)] = true := h1
  simpa [lfB, bne] using h2

set_option maxRecDepth 100000 in
set_option maxHeartbeats 4000000 in
theorem refList_any (s : ByteArray) (w : World) (hs : s.size ≤ 1000000) :
    Calls Tryz.prog 127 #[.string s] w fun e w' => RlPost w (lexA kindW 0 s.data.toList) e w' := by
  obtain ⟨i0, hi0, hz0, hzs, hzb⟩ := info_parts infoRt
  have h00 : RfA w s (lexA kindW 0 s.data.toList) 0 [] [] (.slice none 0 0) w := ⟨.inl ⟨rfl, rfl, rfl⟩, (fun _ h => by cases h), Below.refl _ _, rfl, rfl, Nat.le_refl _⟩
  have H00 := Lib.hid h00
  generalize lexA kindW 0 s.data.toList = R at H00 ⊢
  clear h00
  go_enter Tryz.func127, Tryz.ntmps127
  go_wp2_with fail
  go_loopw [4, 5] (fun v i wr => ∃ (o : Nat) (V : Value), o ≤ s.size ∧ i = .int .i64 o ∧ V = v ∧ Hid (RfI w s R o V wr)) (fun _ i _ => s.size - (intOf i).toNat)
  case atStart => exact ⟨0, _, Nat.zero_le _, rfl, rfl, ⟨_, _, H00.out⟩⟩
  case round =>
    obtain ⟨o, V, ho, rfl, rfl, HI⟩ := hrel
    obtain ⟨pre, G, hA⟩ := HI.out
    have HA := Lib.hid hA
    clear hA HI
    by_cases hlt : o < s.size
    · have hd := drop_at s hlt
      have hdn : s.data.toList.drop o ≠ [] := by rw [hd]; simp
      rcases bl_cases s[o] with ⟨a1, b⟩ | ⟨a1, a2, b⟩ | ⟨a1, a2, a3, b⟩ | ⟨a1, a2, a3, a4, b⟩ | ⟨a1, a2, a3, a4, a5, b, b'⟩ | ⟨a1, a2, a3, a4, a5, b, b'⟩
      · skip
        have HQ : Hid (RfI w s R (o + 1) V wr) := ⟨_, _, HA.out.skip 1 (by rw [hd, skip_bl b]; simp only [List.drop_succ_cons, List.drop_zero]; omega)⟩
        clear hd b HA
        go_wp2
        go_roundw
        case rel => exact ⟨o + 1, V, by omega, by go_num, rfl, HQ⟩
        case measure => simp [intOf]; omega
      · skip
        have HQ : Hid (RfI w s R (o + 1) V wr) := ⟨_, _, HA.out.skip 1 (by rw [hd, skip_bl b]; simp only [List.drop_succ_cons, List.drop_zero]; omega)⟩
        clear hd b HA
        go_wp2
        go_roundw
        case rel => exact ⟨o + 1, V, by omega, by go_num, rfl, HQ⟩
        case measure => simp [intOf]; omega
      · skip
        have HQ : Hid (RfI w s R (o + 1) V wr) := ⟨_, _, HA.out.skip 1 (by rw [hd, skip_bl b]; simp only [List.drop_succ_cons, List.drop_zero]; omega)⟩
        clear hd b HA
        go_wp2
        go_roundw
        case rel => exact ⟨o + 1, V, by omega, by go_num, rfl, HQ⟩
        case measure => simp [intOf]; omega
      · skip
        have HQ : Hid (RfI w s R (o + 1) V wr) := ⟨_, _, HA.out.skip 1 (by rw [hd, skip_bl b]; simp only [List.drop_succ_cons, List.drop_zero]; omega)⟩
        clear hd b HA
        go_wp2
        go_roundw
        case rel => exact ⟨o + 1, V, by omega, by go_num, rfl, HQ⟩
        case measure => simp [intOf]; omega
      · have HL : Hid (RfI w s R (o + lineN (s.data.toList.drop o)) V wr) := ⟨_, _, HA.out.skip _ (by rw [hd]; exact skip_per b b')⟩
        have hll := line_le (s.data.toList.drop o)
        simp only [List.length_drop, show s.data.toList.length = s.size by simp] at hll
        have HLn : Hid (∀ j, j < lineN (s.data.toList.drop o) → (h : o + j < s.size) → ((s[o + j].toNat : Int) != 10) = true) := fun j hj h => line_no hj h
        have HLe : Hid ((h : o + lineN (s.data.toList.drop o) < s.size) → ((s[o + lineN (s.data.toList.drop o)].toNat : Int) != 10) = false) := fun h => line_yes h
        have hl0 : 0 < lineN (s.data.toList.drop o) := by
          have hlf : lfB s[o] = false := by
            cases hl : lfB s[o] with
            | false => rfl
            | true => rw [lf_bl hl] at b; cases b
          rw [hd]
          simp [lineN, hlf]
        generalize lineN (s.data.toList.drop o) = n at HL hll HLn HLe hl0
        clear hd hdn b b' HA
        go_wp2_with fail
        go_loop [5] (fun i => ∃ j : Nat, j ≤ n ∧ i = .int .i64 ((o + j : Nat) : Int)) (fun i => s.size - (intOf i).toNat)
        case atStart => exact ⟨0, Nat.zero_le _, rfl⟩
        case round =>
          obtain ⟨j, hj, rfl⟩ := hrel
          by_cases hjs : o + j < s.size
          · by_cases hjn : j < n
            · have h1 := HLn.out j hjn hjs
              go_wp2
              go_round
              case rel => exact ⟨j + 1, by omega, by go_num⟩
              case measure => simp [intOf]; omega
            · obtain rfl : j = n := by omega
              have h1 := HLe.out hjs
              go_wp2
              go_roundw
              case rel => exact ⟨o + j, V, by omega, rfl, rfl, HL⟩
              case measure => simp [intOf]; omega
          · obtain rfl : j = n := by omega
            go_wp2
            go_roundw
            case rel => exact ⟨o + j, V, by omega, rfl, rfl, HL⟩
            case measure => simp [intOf]; omega
      · have hs0 : skipN false (s.data.toList.drop o) = 0 := by rw [hd]; exact skip_no b b'
        have HS0 := Lib.hid hs0
        have HDn := Lib.hid hdn
        obtain ⟨A0, c0, rfl, _⟩ := HA.out.1.val
        have hpl : pre.length ≤ 1000000 := by have := HA.out.2.2.2.2.2; omega
        have hb1 : pre.length + 1 ≤ maxLen := by unfold maxLen; omega
        have hb2 : (pre.length + 1) * 32 ≤ 140737488355328 := by omega
        clear hs0 b b'
        by_cases hw : wb s[o] = true ∧ ((s[o].toNat : Int) != 95) = true
        · -- a word
          obtain ⟨hw1, hw2⟩ := hw
          have HI1 := Lib.hid (fun W => inside_is s[o] true hw1 W)
          have hwn : (s.data.toList.drop o).takeWhile wb ≠ [] := by rw [hd, List.takeWhile_cons, if_pos hw1]; simp
          have hn0 : 0 < wordN (s.data.toList.drop o) := List.length_pos_iff.2 hwn
          have hle := wordN_le (s.data.toList.drop o)
          simp only [List.length_drop, show s.data.toList.length = s.size by simp] at hle
          have HT : Hid (∀ j, j < wordN (s.data.toList.drop o) → (h : o + j < s.size) → wb s[o + j] = true) := fun j hj h => by
            have hl : j < (s.data.toList.drop o).length := by simp; omega
            have h1 := wordN_lt hj hl
            rw [List.getElem_drop] at h1
            exact h1
          have HF : Hid ((h : o + wordN (s.data.toList.drop o) < s.size) → wb s[o + wordN (s.data.toList.drop o)] = false) := fun h => by
            have hl : wordN (s.data.toList.drop o) < (s.data.toList.drop o).length := by simp; omega
            have h1 := wordN_at hl
            rw [List.getElem_drop] at h1
            exact h1
          have hE : s.extract o (o + wordN (s.data.toList.drop o)) = bts ((s.data.toList.drop o).takeWhile wb) := by
            rw [← bts_of (s.extract o _), ref_part, Nat.add_sub_cancel_left, wordN_take]
          have htw := tok_word hwn
          have hwlen : ((s.data.toList.drop o).takeWhile wb).length = wordN (s.data.toList.drop o) := rfl
          have HWd := Lib.hid (fun W => word_any (bts ((s.data.toList.drop o).takeWhile wb)) W (by rw [bts_size, hwlen]; unfold maxLen; omega) (by rw [bts_size, hwlen]; omega))
          simp only at HWd
          generalize hq : kindW ((s.data.toList.drop o).takeWhile wb) = q at htw HWd
          have HLen := Lib.hid hwlen
          have HTw := Lib.hid htw
          generalize wordN (s.data.toList.drop o) = n at hn0 hle HT HF hE HLen
          obtain ⟨T, hT⟩ : ∃ T, bts ((s.data.toList.drop o).takeWhile wb) = T := ⟨_, rfl⟩
          rw [hT] at hE HWd
          have HTt := Lib.hid hT
          have HE := Lib.hid hE
          clear hd hdn hwn hwlen htw hq hT hE hw1
          go_wp2_with fail
          refine (HI1.out _).mono ?_
          rintro e w' ⟨rfl, rfl⟩
          go_wp2_with fail
          go_loop [7] (fun i => ∃ j : Nat, j ≤ n ∧ i = .int .i64 ((o + j : Nat) : Int)) (fun i => s.size - (intOf i).toNat)
          case atStart => exact ⟨0, Nat.zero_le _, rfl⟩
          case round =>
            obtain ⟨j, hj, rfl⟩ := hrel
            by_cases hjn : j < n
            · have hjs : o + j < s.size := by omega
              have H1 := Lib.hid (HT.out j hjn hjs)
              go_wp2_with fail
              refine (inside_is _ _ H1.out _).mono ?_
              rintro e w' ⟨rfl, rfl⟩
              go_wp2
              go_round
              case rel => exact ⟨j + 1, by omega, by go_num⟩
              case measure => simp [intOf]; omega
            · obtain rfl : j = n := by omega
              have hb3 : o ≤ o + j := by omega
              have hE := HE.out
              by_cases hjs : o + j < s.size
              · have H1 := Lib.hid (HF.out hjs)
                go_wp2_with fail
                refine (inside_is _ _ H1.out _).mono ?_
                rintro e w' ⟨rfl, rfl⟩
                go_wp2_with fail
                refine (HWd.out _).mono ?_
                rintro e w2 ⟨rfl, b2⟩
                have HAX := Lib.hid (HA.out.below b2)
                clear b2 HA HWd HT HF
                by_cases hq : q = 0
                · subst hq
                  have HQ := Lib.hid (HAX.out.bad HS0.out HDn.out (by rw [HTw.out]; simp))
                  clear hE
                  go_wp2
                  go_ret2
                  exact HQ.out
                · have hqz : ((q : Int) == 0) = false := by simp only [beq_eq_false_iff_ne]; omega
                  have HTk : Hid (tokOf kindW (s.data.toList.drop o) = some (q, (s.data.toList.drop o).takeWhile wb)) := by show _ = _; rw [HTw.out, if_neg hq]
                  have HOw := Lib.hid ((HAX.out.1.kept ((Kept.refl [] w2).alloc (.cells #[.int .i64 (q : Int), .string T, .int .i64 (o : Int)] 178)) (fun _ _ h => by cases h)).owns)
                  have HNw : Hid (∀ k u, (tkC (q, (s.data.toList.drop o).takeWhile wb, o))[k]? = some u → (w2.alloc (.cells #[.int .i64 (q : Int), .string T, .int .i64 (o : Int)] 178)).cell? ((⟨w2.heap.size, 0, none⟩ : Addr).add k) = some u) := fun k u hk => by
                    have hv : Own (w2.alloc (.cells #[.int .i64 (q : Int), .string T, .int .i64 (o : Int)] 178)) w2.heap.size 178 (tkC (q, (s.data.toList.drop o).takeWhile wb, o)) := by
                      rw [show tkC (q, (s.data.toList.drop o).takeWhile wb, o) = [.int .i64 (q : Int), .string T, .int .i64 (o : Int)] by show [_, Value.string (bts _), _] = _; rw [HTt.out]]
                      exact heap_alloc_new w2 _
                    rw [Addr.add_lit, Nat.zero_add, hv.cell]
                    exact hk
                  have hone : ∀ u ∈ tkC (q, (s.data.toList.drop o).takeWhile wb, o), u.oneCell' = true := by simp [Value.oneCell']
                  have HLn := Lib.hid HLen.out
                  clear hq
                  go_wp2_with (at_builtin; refine wpList_append_own_at _ rfl _ _ 174 rfl 0 178 i0 _ 3 32 Tryz.underlying174 hi0 hz0 hzs hzb rfl (by decide) (.slice A0 pre.length c0) pre.length (flatT pre) rfl HOw.out ⟨w2.heap.size, 0, none⟩ 1 1 (tkC (q, (s.data.toList.drop o).takeWhile wb, o)) rfl rfl HNw.out hone hb1 hb2 (Nat.zero_le _) ?_; intro v' w3 ho hg _ hat; obtain ⟨g1, cap1, rfl⟩ := owns_val3 ho; have hQ := HAX.out.push HS0.out HDn.out HTk.out ho hg hat; rw [HLen.out] at hQ; have HQ := Lib.hid hQ; clear ho hg hat hQ)
                  go_roundw
                  case rel => exact ⟨o + j, _, by omega, rfl, rfl, HQ⟩
                  case measure => simp [intOf]; omega
              · go_wp2_with fail
                refine (HWd.out _).mono ?_
                rintro e w2 ⟨rfl, b2⟩
                have HAX := Lib.hid (HA.out.below b2)
                clear b2 HA HWd HT HF
                by_cases hq : q = 0
                · subst hq
                  have HQ := Lib.hid (HAX.out.bad HS0.out HDn.out (by rw [HTw.out]; simp))
                  clear hE
                  go_wp2
                  go_ret2
                  exact HQ.out
                · have hqz : ((q : Int) == 0) = false := by simp only [beq_eq_false_iff_ne]; omega
                  have HTk : Hid (tokOf kindW (s.data.toList.drop o) = some (q, (s.data.toList.drop o).takeWhile wb)) := by show _ = _; rw [HTw.out, if_neg hq]
                  have HOw := Lib.hid ((HAX.out.1.kept ((Kept.refl [] w2).alloc (.cells #[.int .i64 (q : Int), .string T, .int .i64 (o : Int)] 178)) (fun _ _ h => by cases h)).owns)
                  have HNw : Hid (∀ k u, (tkC (q, (s.data.toList.drop o).takeWhile wb, o))[k]? = some u → (w2.alloc (.cells #[.int .i64 (q : Int), .string T, .int .i64 (o : Int)] 178)).cell? ((⟨w2.heap.size, 0, none⟩ : Addr).add k) = some u) := fun k u hk => by
                    have hv : Own (w2.alloc (.cells #[.int .i64 (q : Int), .string T, .int .i64 (o : Int)] 178)) w2.heap.size 178 (tkC (q, (s.data.toList.drop o).takeWhile wb, o)) := by
                      rw [show tkC (q, (s.data.toList.drop o).takeWhile wb, o) = [.int .i64 (q : Int), .string T, .int .i64 (o : Int)] by show [_, Value.string (bts _), _] = _; rw [HTt.out]]
                      exact heap_alloc_new w2 _
                    rw [Addr.add_lit, Nat.zero_add, hv.cell]
                    exact hk
                  have hone : ∀ u ∈ tkC (q, (s.data.toList.drop o).takeWhile wb, o), u.oneCell' = true := by simp [Value.oneCell']
                  have HLn := Lib.hid HLen.out
                  clear hq
                  go_wp2_with (at_builtin; refine wpList_append_own_at _ rfl _ _ 174 rfl 0 178 i0 _ 3 32 Tryz.underlying174 hi0 hz0 hzs hzb rfl (by decide) (.slice A0 pre.length c0) pre.length (flatT pre) rfl HOw.out ⟨w2.heap.size, 0, none⟩ 1 1 (tkC (q, (s.data.toList.drop o).takeWhile wb, o)) rfl rfl HNw.out hone hb1 hb2 (Nat.zero_le _) ?_; intro v' w3 ho hg _ hat; obtain ⟨g1, cap1, rfl⟩ := owns_val3 ho; have hQ := HAX.out.push HS0.out HDn.out HTk.out ho hg hat; rw [HLen.out] at hQ; have HQ := Lib.hid hQ; clear ho hg hat hQ)
                  go_roundw
                  case rel => exact ⟨o + j, _, by omega, rfl, rfl, HQ⟩
                  case measure => simp [intOf]; omega
        · -- a sign, or no token
          have hc : wb s[o] = false ∨ s[o] = 95 := by
            cases hwb : wb s[o] with
            | false => exact .inl rfl
            | true =>
              refine .inr ?_
              have h2 : ¬ ((s[o].toNat : Int) != 95) = true := fun h => hw ⟨hwb, h⟩
              have h3 : (s[o].toNat : Int) = 95 := by simpa [bne] using h2
              apply UInt8.toNat_inj.1
              simpa using (by omega : s[o].toNat = 95)
          have htk : tokOf kindW (s.data.toList.drop o) = (signOf (s.data.toList.drop o)).map fun p => (5, p) := by rw [hd]; exact tok_sign hc
          rw [signOf_eq] at htk
          have hin : (wb s[o] && ((s[o].toNat : Int) != 95)) = false := by
            cases hwb : wb s[o] with
            | false => rfl
            | true =>
              cases h2 : ((s[o].toNat : Int) != 95) with
              | false => rfl
              | true => exact absurd ⟨hwb, h2⟩ hw
          have HI1 : Hid (∀ W, Calls Tryz.prog 143 #[.int .u8 s[o].toNat] W fun e w' => e = .returned (.bool (wb s[o])) ∧ W = w') := fun W => inside_any s[o] W
          have HTk0 := Lib.hid htk
          clear hd hdn htk hw hc
          cases hwb : wb s[o] with
          | false =>
            rw [hwb] at HI1 hin
            have h95 : True := trivial
            clear hin hwb
            have hl1 : (s.data.toList.drop o).length = s.size - o := by simp
            by_cases h2 : o + 2 ≤ s.size
            · have h2i : (o : Int) + 2 ≤ (s.size : Int) := by omega
              have hE2 : s.extract o (o + 2) = bts ((s.data.toList.drop o).take 2) := by rw [← bts_of (s.extract o _), ref_part, Nat.add_sub_cancel_left]
              have hO4 : Own (wr.alloc (.cells #[.string (bts [58,45]), .string (bts [33,61]), .string (bts [60,61]), .string (bts [62,61])] 9)) wr.heap.size 9 (twoL.map fun l => .string (bts l)) := heap_alloc_new wr _
              have hB4 : Below wr.heap.size wr (wr.alloc (.cells #[.string (bts [58,45]), .string (bts [33,61]), .string (bts [60,61]), .string (bts [62,61])] 9)) := (Below.refl _ _).alloc (Nat.le_refl _) _
              obtain ⟨w4, hw4⟩ : ∃ w4, w4 = wr.alloc (.cells #[.string (bts [58,45]), .string (bts [33,61]), .string (bts [60,61]), .string (bts [62,61])] 9) := ⟨_, rfl⟩
              rw [← hw4] at hO4 hB4
              have HI2 := Lib.hid (in_any wr.heap.size 0 4 twoL (bts ((s.data.toList.drop o).take 2)) w4 (by decide) (fun i x hx => by rw [Nat.zero_add, hO4.cell, List.getElem?_map, hx]; rfl))
              simp only at HI2
              have HA4 := Lib.hid (HA.out.below hB4)
              have HW4 := Lib.hid hw4
              obtain ⟨T2, hT2⟩ : ∃ T, bts ((s.data.toList.drop o).take 2) = T := ⟨_, rfl⟩
              rw [hT2] at HI2 hE2
              have HTt2 := Lib.hid hT2
              clear hw4 hO4 hB4 hT2 HA
              cases hi2 : inB twoL ((s.data.toList.drop o).take 2) with
              | true =>
                rw [hi2] at HI2
                have HTk : Hid (tokOf kindW (s.data.toList.drop o) = some (5, (s.data.toList.drop o).take 2)) := by show _ = _; rw [HTk0.out, if_pos hi2]; rfl
                have HLn : Hid (((s.data.toList.drop o).take 2).length = 2) := by show _ = _; rw [List.length_take, hl1]; omega
                clear hi2 hl1
                go_wp2_with fail
                refine (HI1.out _).mono ?_
                rintro e w' ⟨rfl, rfl⟩
                go_wp2_with fail
                rw [← HW4.out]
                refine HI2.out.mono ?_
                rintro e w' ⟨rfl, rfl⟩
                have HOw := Lib.hid ((HA4.out.1.kept ((Kept.refl [] w4).alloc (.cells #[.int .i64 5, .string T2, .int .i64 (o : Int)] 178)) (fun _ _ h => by cases h)).owns)
                have HNw : Hid (∀ k u, (tkC (5, ((s.data.toList.drop o).take 2), o))[k]? = some u → (w4.alloc (.cells #[.int .i64 5, .string T2, .int .i64 (o : Int)] 178)).cell? ((⟨w4.heap.size, 0, none⟩ : Addr).add k) = some u) := fun k u hk => by
                  have hv : Own (w4.alloc (.cells #[.int .i64 5, .string T2, .int .i64 (o : Int)] 178)) w4.heap.size 178 (tkC (5, ((s.data.toList.drop o).take 2), o)) := by
                    rw [show tkC (5, ((s.data.toList.drop o).take 2), o) = [.int .i64 5, .string T2, .int .i64 (o : Int)] by show [_, Value.string (bts _), _] = _; rw [HTt2.out]; rfl]
                    exact heap_alloc_new w4 _
                  rw [Addr.add_lit, Nat.zero_add, hv.cell]
                  exact hk
                have hone : ∀ u ∈ tkC (5, ((s.data.toList.drop o).take 2), o), u.oneCell' = true := by simp [Value.oneCell']
                go_wp2_with (at_builtin; refine wpList_append_own_at _ rfl _ _ 174 rfl 0 178 i0 _ 3 32 Tryz.underlying174 hi0 hz0 hzs hzb rfl (by decide) (.slice A0 pre.length c0) pre.length (flatT pre) rfl HOw.out ⟨w4.heap.size, 0, none⟩ 1 1 (tkC (5, ((s.data.toList.drop o).take 2), o)) rfl rfl HNw.out hone hb1 hb2 (Nat.zero_le _) ?_; intro v' w3 ho hg _ hat; obtain ⟨g1, cap1, rfl⟩ := owns_val3 ho; have hQ := HA4.out.push HS0.out HDn.out HTk.out ho hg hat; rw [HLn.out] at hQ; have HQ := Lib.hid hQ; clear ho hg hat hQ)
                go_roundw
                case rel => exact ⟨o + 2, _, by omega, by go_num, rfl, HQ⟩
                case measure => simp [intOf]; omega
              | false =>
                rw [hi2] at HI2
                have HTk1 : Hid (tokOf kindW (s.data.toList.drop o) = (if inB oneL ((s.data.toList.drop o).take 1) = true then some ((s.data.toList.drop o).take 1) else none).map fun p => (5, p)) := by show _ = _; rw [HTk0.out, if_neg (by simp [hi2])]
                clear hi2 hl1
                go_wp2_with fail
                refine (HI1.out _).mono ?_
                rintro e w' ⟨rfl, rfl⟩
                go_wp2_with fail
                rw [← HW4.out]
                refine HI2.out.mono ?_
                rintro e w' ⟨rfl, rfl⟩
                clear hE2 HW4 HI2
                have hE1 : s.extract o (o + 1) = bts ((s.data.toList.drop o).take 1) := by rw [← bts_of (s.extract o _), ref_part, Nat.add_sub_cancel_left]
                have hO10 : Own (w4.alloc (.cells #[.string (bts [40]), .string (bts [41]), .string (bts [44]), .string (bts [46]), .string (bts [61]), .string (bts [60]), .string (bts [62]), .string (bts [43]), .string (bts [45]), .string (bts [42])] 9)) w4.heap.size 9 (oneL.map fun l => .string (bts l)) := heap_alloc_new w4 _
                have hB10 : Below w4.heap.size w4 (w4.alloc (.cells #[.string (bts [40]), .string (bts [41]), .string (bts [44]), .string (bts [46]), .string (bts [61]), .string (bts [60]), .string (bts [62]), .string (bts [43]), .string (bts [45]), .string (bts [42])] 9)) := (Below.refl _ _).alloc (Nat.le_refl _) _
                obtain ⟨w10, hw10⟩ : ∃ w10, w10 = w4.alloc (.cells #[.string (bts [40]), .string (bts [41]), .string (bts [44]), .string (bts [46]), .string (bts [61]), .string (bts [60]), .string (bts [62]), .string (bts [43]), .string (bts [45]), .string (bts [42])] 9) := ⟨_, rfl⟩
                rw [← hw10] at hO10 hB10
                have HI3 := Lib.hid (in_any w4.heap.size 0 10 oneL (bts ((s.data.toList.drop o).take 1)) w10 (by decide) (fun i x hx => by rw [Nat.zero_add, hO10.cell, List.getElem?_map, hx]; rfl))
                simp only at HI3
                have HA10 := Lib.hid (HA4.out.below hB10)
                have HW10 := Lib.hid hw10
                obtain ⟨T1, hT1⟩ : ∃ T, bts ((s.data.toList.drop o).take 1) = T := ⟨_, rfl⟩
                rw [hT1] at HI3 hE1
                have HTt1 := Lib.hid hT1
                clear hw10 hO10 hB10 hT1 HA4
                cases hi1 : inB oneL ((s.data.toList.drop o).take 1) with
                | true =>
                  rw [hi1] at HI3
                  have HTk : Hid (tokOf kindW (s.data.toList.drop o) = some (5, (s.data.toList.drop o).take 1)) := by show _ = _; rw [HTk1.out, if_pos hi1]; rfl
                  have HLn : Hid (((s.data.toList.drop o).take 1).length = 1) := len_one hi1
                  clear hi1
                  go_wp2_with fail
                  rw [← HW10.out]
                  refine HI3.out.mono ?_
                  rintro e w' ⟨rfl, rfl⟩
                  have HOw := Lib.hid ((HA10.out.1.kept ((Kept.refl [] w10).alloc (.cells #[.int .i64 5, .string T1, .int .i64 (o : Int)] 178)) (fun _ _ h => by cases h)).owns)
                  have HNw : Hid (∀ k u, (tkC (5, ((s.data.toList.drop o).take 1), o))[k]? = some u → (w10.alloc (.cells #[.int .i64 5, .string T1, .int .i64 (o : Int)] 178)).cell? ((⟨w10.heap.size, 0, none⟩ : Addr).add k) = some u) := fun k u hk => by
                    have hv : Own (w10.alloc (.cells #[.int .i64 5, .string T1, .int .i64 (o : Int)] 178)) w10.heap.size 178 (tkC (5, ((s.data.toList.drop o).take 1), o)) := by
                      rw [show tkC (5, ((s.data.toList.drop o).take 1), o) = [.int .i64 5, .string T1, .int .i64 (o : Int)] by show [_, Value.string (bts _), _] = _; rw [HTt1.out]; rfl]
                      exact heap_alloc_new w10 _
                    rw [Addr.add_lit, Nat.zero_add, hv.cell]
                    exact hk
                  have hone : ∀ u ∈ tkC (5, ((s.data.toList.drop o).take 1), o), u.oneCell' = true := by simp [Value.oneCell']
                  go_wp2_with (at_builtin; refine wpList_append_own_at _ rfl _ _ 174 rfl 0 178 i0 _ 3 32 Tryz.underlying174 hi0 hz0 hzs hzb rfl (by decide) (.slice A0 pre.length c0) pre.length (flatT pre) rfl HOw.out ⟨w10.heap.size, 0, none⟩ 1 1 (tkC (5, ((s.data.toList.drop o).take 1), o)) rfl rfl HNw.out hone hb1 hb2 (Nat.zero_le _) ?_; intro v' w3 ho hg _ hat; obtain ⟨g1, cap1, rfl⟩ := owns_val3 ho; have hQ := HA10.out.push HS0.out HDn.out HTk.out ho hg hat; rw [HLn.out] at hQ; have HQ := Lib.hid hQ; clear ho hg hat hQ)
                  go_roundw
                  case rel => exact ⟨o + 1, _, by omega, by go_num, rfl, HQ⟩
                  case measure => simp [intOf]; omega
                | false =>
                  rw [hi1] at HI3
                  have HQ := Lib.hid (HA10.out.bad HS0.out HDn.out (by rw [HTk1.out, if_neg (by simp [hi1])]; rfl))
                  clear hi1
                  go_wp2_with fail
                  rw [← HW10.out]
                  refine HI3.out.mono ?_
                  rintro e w' ⟨rfl, rfl⟩
                  clear hE1
                  go_wp2
                  go_ret2
                  exact HQ.out
            · have h2i : (s.size : Int) < (o : Int) + 2 := by omega
              have hi2 : inB twoL ((s.data.toList.drop o).take 2) = false := by
                cases h : inB twoL ((s.data.toList.drop o).take 2) with
                | false => rfl
                | true => have := len_two h; omega
              have HTk1 : Hid (tokOf kindW (s.data.toList.drop o) = (if inB oneL ((s.data.toList.drop o).take 1) = true then some ((s.data.toList.drop o).take 1) else none).map fun p => (5, p)) := by show _ = _; rw [HTk0.out, if_neg (by simp [hi2])]
              obtain ⟨w4, hw4⟩ : ∃ w4, w4 = wr := ⟨_, rfl⟩
              have HA4 : Hid (RfA w s R o pre G (.slice A0 pre.length c0) w4) := by rw [hw4]; exact HA.out
              rw [← hw4]
              clear hi2 hl1 hw4 HA
              go_wp2_with fail
              refine (HI1.out _).mono ?_
              rintro e w' ⟨rfl, rfl⟩
              have hE1 : s.extract o (o + 1) = bts ((s.data.toList.drop o).take 1) := by rw [← bts_of (s.extract o _), ref_part, Nat.add_sub_cancel_left]
              have hO10 : Own (w4.alloc (.cells #[.string (bts [40]), .string (bts [41]), .string (bts [44]), .string (bts [46]), .string (bts [61]), .string (bts [60]), .string (bts [62]), .string (bts [43]), .string (bts [45]), .string (bts [42])] 9)) w4.heap.size 9 (oneL.map fun l => .string (bts l)) := heap_alloc_new w4 _
              have hB10 : Below w4.heap.size w4 (w4.alloc (.cells #[.string (bts [40]), .string (bts [41]), .string (bts [44]), .string (bts [46]), .string (bts [61]), .string (bts [60]), .string (bts [62]), .string (bts [43]), .string (bts [45]), .string (bts [42])] 9)) := (Below.refl _ _).alloc (Nat.le_refl _) _
              obtain ⟨w10, hw10⟩ : ∃ w10, w10 = w4.alloc (.cells #[.string (bts [40]), .string (bts [41]), .string (bts [44]), .string (bts [46]), .string (bts [61]), .string (bts [60]), .string (bts [62]), .string (bts [43]), .string (bts [45]), .string (bts [42])] 9) := ⟨_, rfl⟩
              rw [← hw10] at hO10 hB10
              have HI3 := Lib.hid (in_any w4.heap.size 0 10 oneL (bts ((s.data.toList.drop o).take 1)) w10 (by decide) (fun i x hx => by rw [Nat.zero_add, hO10.cell, List.getElem?_map, hx]; rfl))
              simp only at HI3
              have HA10 := Lib.hid (HA4.out.below hB10)
              have HW10 := Lib.hid hw10
              obtain ⟨T1, hT1⟩ : ∃ T, bts ((s.data.toList.drop o).take 1) = T := ⟨_, rfl⟩
              rw [hT1] at HI3 hE1
              have HTt1 := Lib.hid hT1
              clear hw10 hO10 hB10 hT1 HA4
              cases hi1 : inB oneL ((s.data.toList.drop o).take 1) with
              | true =>
                rw [hi1] at HI3
                have HTk : Hid (tokOf kindW (s.data.toList.drop o) = some (5, (s.data.toList.drop o).take 1)) := by show _ = _; rw [HTk1.out, if_pos hi1]; rfl
                have HLn : Hid (((s.data.toList.drop o).take 1).length = 1) := len_one hi1
                clear hi1
                go_wp2_with fail
                rw [← HW10.out]
                refine HI3.out.mono ?_
                rintro e w' ⟨rfl, rfl⟩
                have HOw := Lib.hid ((HA10.out.1.kept ((Kept.refl [] w10).alloc (.cells #[.int .i64 5, .string T1, .int .i64 (o : Int)] 178)) (fun _ _ h => by cases h)).owns)
                have HNw : Hid (∀ k u, (tkC (5, ((s.data.toList.drop o).take 1), o))[k]? = some u → (w10.alloc (.cells #[.int .i64 5, .string T1, .int .i64 (o : Int)] 178)).cell? ((⟨w10.heap.size, 0, none⟩ : Addr).add k) = some u) := fun k u hk => by
                  have hv : Own (w10.alloc (.cells #[.int .i64 5, .string T1, .int .i64 (o : Int)] 178)) w10.heap.size 178 (tkC (5, ((s.data.toList.drop o).take 1), o)) := by
                    rw [show tkC (5, ((s.data.toList.drop o).take 1), o) = [.int .i64 5, .string T1, .int .i64 (o : Int)] by show [_, Value.string (bts _), _] = _; rw [HTt1.out]; rfl]
                    exact heap_alloc_new w10 _
                  rw [Addr.add_lit, Nat.zero_add, hv.cell]
                  exact hk
                have hone : ∀ u ∈ tkC (5, ((s.data.toList.drop o).take 1), o), u.oneCell' = true := by simp [Value.oneCell']
                go_wp2_with (at_builtin; refine wpList_append_own_at _ rfl _ _ 174 rfl 0 178 i0 _ 3 32 Tryz.underlying174 hi0 hz0 hzs hzb rfl (by decide) (.slice A0 pre.length c0) pre.length (flatT pre) rfl HOw.out ⟨w10.heap.size, 0, none⟩ 1 1 (tkC (5, ((s.data.toList.drop o).take 1), o)) rfl rfl HNw.out hone hb1 hb2 (Nat.zero_le _) ?_; intro v' w3 ho hg _ hat; obtain ⟨g1, cap1, rfl⟩ := owns_val3 ho; have hQ := HA10.out.push HS0.out HDn.out HTk.out ho hg hat; rw [HLn.out] at hQ; have HQ := Lib.hid hQ; clear ho hg hat hQ)
                go_roundw
                case rel => exact ⟨o + 1, _, by omega, by go_num, rfl, HQ⟩
                case measure => simp [intOf]; omega
              | false =>
                rw [hi1] at HI3
                have HQ := Lib.hid (HA10.out.bad HS0.out HDn.out (by rw [HTk1.out, if_neg (by simp [hi1])]; rfl))
                clear hi1
                go_wp2_with fail
                rw [← HW10.out]
                refine HI3.out.mono ?_
                rintro e w' ⟨rfl, rfl⟩
                clear hE1
                go_wp2
                go_ret2
                exact HQ.out
          | true =>
            have h95 : ((s[o].toNat : Int) != 95) = false := by rw [hwb] at hin; simpa using hin
            rw [hwb] at HI1 hin
            clear hin hwb
            have hl1 : (s.data.toList.drop o).length = s.size - o := by simp
            by_cases h2 : o + 2 ≤ s.size
            · have h2i : (o : Int) + 2 ≤ (s.size : Int) := by omega
              have hE2 : s.extract o (o + 2) = bts ((s.data.toList.drop o).take 2) := by rw [← bts_of (s.extract o _), ref_part, Nat.add_sub_cancel_left]
              have hO4 : Own (wr.alloc (.cells #[.string (bts [58,45]), .string (bts [33,61]), .string (bts [60,61]), .string (bts [62,61])] 9)) wr.heap.size 9 (twoL.map fun l => .string (bts l)) := heap_alloc_new wr _
              have hB4 : Below wr.heap.size wr (wr.alloc (.cells #[.string (bts [58,45]), .string (bts [33,61]), .string (bts [60,61]), .string (bts [62,61])] 9)) := (Below.refl _ _).alloc (Nat.le_refl _) _
              obtain ⟨w4, hw4⟩ : ∃ w4, w4 = wr.alloc (.cells #[.string (bts [58,45]), .string (bts [33,61]), .string (bts [60,61]), .string (bts [62,61])] 9) := ⟨_, rfl⟩
              rw [← hw4] at hO4 hB4
              have HI2 := Lib.hid (in_any wr.heap.size 0 4 twoL (bts ((s.data.toList.drop o).take 2)) w4 (by decide) (fun i x hx => by rw [Nat.zero_add, hO4.cell, List.getElem?_map, hx]; rfl))
              simp only at HI2
              have HA4 := Lib.hid (HA.out.below hB4)
              have HW4 := Lib.hid hw4
              obtain ⟨T2, hT2⟩ : ∃ T, bts ((s.data.toList.drop o).take 2) = T := ⟨_, rfl⟩
              rw [hT2] at HI2 hE2
              have HTt2 := Lib.hid hT2
              clear hw4 hO4 hB4 hT2 HA
              cases hi2 : inB twoL ((s.data.toList.drop o).take 2) with
              | true =>
                rw [hi2] at HI2
                have HTk : Hid (tokOf kindW (s.data.toList.drop o) = some (5, (s.data.toList.drop o).take 2)) := by show _ = _; rw [HTk0.out, if_pos hi2]; rfl
                have HLn : Hid (((s.data.toList.drop o).take 2).length = 2) := by show _ = _; rw [List.length_take, hl1]; omega
                clear hi2 hl1
                go_wp2_with fail
                refine (HI1.out _).mono ?_
                rintro e w' ⟨rfl, rfl⟩
                go_wp2_with fail
                rw [← HW4.out]
                refine HI2.out.mono ?_
                rintro e w' ⟨rfl, rfl⟩
                have HOw := Lib.hid ((HA4.out.1.kept ((Kept.refl [] w4).alloc (.cells #[.int .i64 5, .string T2, .int .i64 (o : Int)] 178)) (fun _ _ h => by cases h)).owns)
                have HNw : Hid (∀ k u, (tkC (5, ((s.data.toList.drop o).take 2), o))[k]? = some u → (w4.alloc (.cells #[.int .i64 5, .string T2, .int .i64 (o : Int)] 178)).cell? ((⟨w4.heap.size, 0, none⟩ : Addr).add k) = some u) := fun k u hk => by
                  have hv : Own (w4.alloc (.cells #[.int .i64 5, .string T2, .int .i64 (o : Int)] 178)) w4.heap.size 178 (tkC (5, ((s.data.toList.drop o).take 2), o)) := by
                    rw [show tkC (5, ((s.data.toList.drop o).take 2), o) = [.int .i64 5, .string T2, .int .i64 (o : Int)] by show [_, Value.string (bts _), _] = _; rw [HTt2.out]; rfl]
                    exact heap_alloc_new w4 _
                  rw [Addr.add_lit, Nat.zero_add, hv.cell]
                  exact hk
                have hone : ∀ u ∈ tkC (5, ((s.data.toList.drop o).take 2), o), u.oneCell' = true := by simp [Value.oneCell']
                go_wp2_with (at_builtin; refine wpList_append_own_at _ rfl _ _ 174 rfl 0 178 i0 _ 3 32 Tryz.underlying174 hi0 hz0 hzs hzb rfl (by decide) (.slice A0 pre.length c0) pre.length (flatT pre) rfl HOw.out ⟨w4.heap.size, 0, none⟩ 1 1 (tkC (5, ((s.data.toList.drop o).take 2), o)) rfl rfl HNw.out hone hb1 hb2 (Nat.zero_le _) ?_; intro v' w3 ho hg _ hat; obtain ⟨g1, cap1, rfl⟩ := owns_val3 ho; have hQ := HA4.out.push HS0.out HDn.out HTk.out ho hg hat; rw [HLn.out] at hQ; have HQ := Lib.hid hQ; clear ho hg hat hQ)
                go_roundw
                case rel => exact ⟨o + 2, _, by omega, by go_num, rfl, HQ⟩
                case measure => simp [intOf]; omega
              | false =>
                rw [hi2] at HI2
                have HTk1 : Hid (tokOf kindW (s.data.toList.drop o) = (if inB oneL ((s.data.toList.drop o).take 1) = true then some ((s.data.toList.drop o).take 1) else none).map fun p => (5, p)) := by show _ = _; rw [HTk0.out, if_neg (by simp [hi2])]
                clear hi2 hl1
                go_wp2_with fail
                refine (HI1.out _).mono ?_
                rintro e w' ⟨rfl, rfl⟩
                go_wp2_with fail
                rw [← HW4.out]
                refine HI2.out.mono ?_
                rintro e w' ⟨rfl, rfl⟩
                clear hE2 HW4 HI2
                have hE1 : s.extract o (o + 1) = bts ((s.data.toList.drop o).take 1) := by rw [← bts_of (s.extract o _), ref_part, Nat.add_sub_cancel_left]
                have hO10 : Own (w4.alloc (.cells #[.string (bts [40]), .string (bts [41]), .string (bts [44]), .string (bts [46]), .string (bts [61]), .string (bts [60]), .string (bts [62]), .string (bts [43]), .string (bts [45]), .string (bts [42])] 9)) w4.heap.size 9 (oneL.map fun l => .string (bts l)) := heap_alloc_new w4 _
                have hB10 : Below w4.heap.size w4 (w4.alloc (.cells #[.string (bts [40]), .string (bts [41]), .string (bts [44]), .string (bts [46]), .string (bts [61]), .string (bts [60]), .string (bts [62]), .string (bts [43]), .string (bts [45]), .string (bts [42])] 9)) := (Below.refl _ _).alloc (Nat.le_refl _) _
                obtain ⟨w10, hw10⟩ : ∃ w10, w10 = w4.alloc (.cells #[.string (bts [40]), .string (bts [41]), .string (bts [44]), .string (bts [46]), .string (bts [61]), .string (bts [60]), .string (bts [62]), .string (bts [43]), .string (bts [45]), .string (bts [42])] 9) := ⟨_, rfl⟩
                rw [← hw10] at hO10 hB10
                have HI3 := Lib.hid (in_any w4.heap.size 0 10 oneL (bts ((s.data.toList.drop o).take 1)) w10 (by decide) (fun i x hx => by rw [Nat.zero_add, hO10.cell, List.getElem?_map, hx]; rfl))
                simp only at HI3
                have HA10 := Lib.hid (HA4.out.below hB10)
                have HW10 := Lib.hid hw10
                obtain ⟨T1, hT1⟩ : ∃ T, bts ((s.data.toList.drop o).take 1) = T := ⟨_, rfl⟩
                rw [hT1] at HI3 hE1
                have HTt1 := Lib.hid hT1
                clear hw10 hO10 hB10 hT1 HA4
                cases hi1 : inB oneL ((s.data.toList.drop o).take 1) with
                | true =>
                  rw [hi1] at HI3
                  have HTk : Hid (tokOf kindW (s.data.toList.drop o) = some (5, (s.data.toList.drop o).take 1)) := by show _ = _; rw [HTk1.out, if_pos hi1]; rfl
                  have HLn : Hid (((s.data.toList.drop o).take 1).length = 1) := len_one hi1
                  clear hi1
                  go_wp2_with fail
                  rw [← HW10.out]
                  refine HI3.out.mono ?_
                  rintro e w' ⟨rfl, rfl⟩
                  have HOw := Lib.hid ((HA10.out.1.kept ((Kept.refl [] w10).alloc (.cells #[.int .i64 5, .string T1, .int .i64 (o : Int)] 178)) (fun _ _ h => by cases h)).owns)
                  have HNw : Hid (∀ k u, (tkC (5, ((s.data.toList.drop o).take 1), o))[k]? = some u → (w10.alloc (.cells #[.int .i64 5, .string T1, .int .i64 (o : Int)] 178)).cell? ((⟨w10.heap.size, 0, none⟩ : Addr).add k) = some u) := fun k u hk => by
                    have hv : Own (w10.alloc (.cells #[.int .i64 5, .string T1, .int .i64 (o : Int)] 178)) w10.heap.size 178 (tkC (5, ((s.data.toList.drop o).take 1), o)) := by
                      rw [show tkC (5, ((s.data.toList.drop o).take 1), o) = [.int .i64 5, .string T1, .int .i64 (o : Int)] by show [_, Value.string (bts _), _] = _; rw [HTt1.out]; rfl]
                      exact heap_alloc_new w10 _
                    rw [Addr.add_lit, Nat.zero_add, hv.cell]
                    exact hk
                  have hone : ∀ u ∈ tkC (5, ((s.data.toList.drop o).take 1), o), u.oneCell' = true := by simp [Value.oneCell']
                  go_wp2_with (at_builtin; refine wpList_append_own_at _ rfl _ _ 174 rfl 0 178 i0 _ 3 32 Tryz.underlying174 hi0 hz0 hzs hzb rfl (by decide) (.slice A0 pre.length c0) pre.length (flatT pre) rfl HOw.out ⟨w10.heap.size, 0, none⟩ 1 1 (tkC (5, ((s.data.toList.drop o).take 1), o)) rfl rfl HNw.out hone hb1 hb2 (Nat.zero_le _) ?_; intro v' w3 ho hg _ hat; obtain ⟨g1, cap1, rfl⟩ := owns_val3 ho; have hQ := HA10.out.push HS0.out HDn.out HTk.out ho hg hat; rw [HLn.out] at hQ; have HQ := Lib.hid hQ; clear ho hg hat hQ)
                  go_roundw
                  case rel => exact ⟨o + 1, _, by omega, by go_num, rfl, HQ⟩
                  case measure => simp [intOf]; omega
                | false =>
                  rw [hi1] at HI3
                  have HQ := Lib.hid (HA10.out.bad HS0.out HDn.out (by rw [HTk1.out, if_neg (by simp [hi1])]; rfl))
                  clear hi1
                  go_wp2_with fail
                  rw [← HW10.out]
                  refine HI3.out.mono ?_
                  rintro e w' ⟨rfl, rfl⟩
                  clear hE1
                  go_wp2
                  go_ret2
                  exact HQ.out
            · have h2i : (s.size : Int) < (o : Int) + 2 := by omega
              have hi2 : inB twoL ((s.data.toList.drop o).take 2) = false := by
                cases h : inB twoL ((s.data.toList.drop o).take 2) with
                | false => rfl
                | true => have := len_two h; omega
              have HTk1 : Hid (tokOf kindW (s.data.toList.drop o) = (if inB oneL ((s.data.toList.drop o).take 1) = true then some ((s.data.toList.drop o).take 1) else none).map fun p => (5, p)) := by show _ = _; rw [HTk0.out, if_neg (by simp [hi2])]
              obtain ⟨w4, hw4⟩ : ∃ w4, w4 = wr := ⟨_, rfl⟩
              have HA4 : Hid (RfA w s R o pre G (.slice A0 pre.length c0) w4) := by rw [hw4]; exact HA.out
              rw [← hw4]
              clear hi2 hl1 hw4 HA
              go_wp2_with fail
              refine (HI1.out _).mono ?_
              rintro e w' ⟨rfl, rfl⟩
              have hE1 : s.extract o (o + 1) = bts ((s.data.toList.drop o).take 1) := by rw [← bts_of (s.extract o _), ref_part, Nat.add_sub_cancel_left]
              have hO10 : Own (w4.alloc (.cells #[.string (bts [40]), .string (bts [41]), .string (bts [44]), .string (bts [46]), .string (bts [61]), .string (bts [60]), .string (bts [62]), .string (bts [43]), .string (bts [45]), .string (bts [42])] 9)) w4.heap.size 9 (oneL.map fun l => .string (bts l)) := heap_alloc_new w4 _
              have hB10 : Below w4.heap.size w4 (w4.alloc (.cells #[.string (bts [40]), .string (bts [41]), .string (bts [44]), .string (bts [46]), .string (bts [61]), .string (bts [60]), .string (bts [62]), .string (bts [43]), .string (bts [45]), .string (bts [42])] 9)) := (Below.refl _ _).alloc (Nat.le_refl _) _
              obtain ⟨w10, hw10⟩ : ∃ w10, w10 = w4.alloc (.cells #[.string (bts [40]), .string (bts [41]), .string (bts [44]), .string (bts [46]), .string (bts [61]), .string (bts [60]), .string (bts [62]), .string (bts [43]), .string (bts [45]), .string (bts [42])] 9) := ⟨_, rfl⟩
              rw [← hw10] at hO10 hB10
              have HI3 := Lib.hid (in_any w4.heap.size 0 10 oneL (bts ((s.data.toList.drop o).take 1)) w10 (by decide) (fun i x hx => by rw [Nat.zero_add, hO10.cell, List.getElem?_map, hx]; rfl))
              simp only at HI3
              have HA10 := Lib.hid (HA4.out.below hB10)
              have HW10 := Lib.hid hw10
              obtain ⟨T1, hT1⟩ : ∃ T, bts ((s.data.toList.drop o).take 1) = T := ⟨_, rfl⟩
              rw [hT1] at HI3 hE1
              have HTt1 := Lib.hid hT1
              clear hw10 hO10 hB10 hT1 HA4
              cases hi1 : inB oneL ((s.data.toList.drop o).take 1) with
              | true =>
                rw [hi1] at HI3
                have HTk : Hid (tokOf kindW (s.data.toList.drop o) = some (5, (s.data.toList.drop o).take 1)) := by show _ = _; rw [HTk1.out, if_pos hi1]; rfl
                have HLn : Hid (((s.data.toList.drop o).take 1).length = 1) := len_one hi1
                clear hi1
                go_wp2_with fail
                rw [← HW10.out]
                refine HI3.out.mono ?_
                rintro e w' ⟨rfl, rfl⟩
                have HOw := Lib.hid ((HA10.out.1.kept ((Kept.refl [] w10).alloc (.cells #[.int .i64 5, .string T1, .int .i64 (o : Int)] 178)) (fun _ _ h => by cases h)).owns)
                have HNw : Hid (∀ k u, (tkC (5, ((s.data.toList.drop o).take 1), o))[k]? = some u → (w10.alloc (.cells #[.int .i64 5, .string T1, .int .i64 (o : Int)] 178)).cell? ((⟨w10.heap.size, 0, none⟩ : Addr).add k) = some u) := fun k u hk => by
                  have hv : Own (w10.alloc (.cells #[.int .i64 5, .string T1, .int .i64 (o : Int)] 178)) w10.heap.size 178 (tkC (5, ((s.data.toList.drop o).take 1), o)) := by
                    rw [show tkC (5, ((s.data.toList.drop o).take 1), o) = [.int .i64 5, .string T1, .int .i64 (o : Int)] by show [_, Value.string (bts _), _] = _; rw [HTt1.out]; rfl]
                    exact heap_alloc_new w10 _
                  rw [Addr.add_lit, Nat.zero_add, hv.cell]
                  exact hk
                have hone : ∀ u ∈ tkC (5, ((s.data.toList.drop o).take 1), o), u.oneCell' = true := by simp [Value.oneCell']
                go_wp2_with (at_builtin; refine wpList_append_own_at _ rfl _ _ 174 rfl 0 178 i0 _ 3 32 Tryz.underlying174 hi0 hz0 hzs hzb rfl (by decide) (.slice A0 pre.length c0) pre.length (flatT pre) rfl HOw.out ⟨w10.heap.size, 0, none⟩ 1 1 (tkC (5, ((s.data.toList.drop o).take 1), o)) rfl rfl HNw.out hone hb1 hb2 (Nat.zero_le _) ?_; intro v' w3 ho hg _ hat; obtain ⟨g1, cap1, rfl⟩ := owns_val3 ho; have hQ := HA10.out.push HS0.out HDn.out HTk.out ho hg hat; rw [HLn.out] at hQ; have HQ := Lib.hid hQ; clear ho hg hat hQ)
                go_roundw
                case rel => exact ⟨o + 1, _, by omega, by go_num, rfl, HQ⟩
                case measure => simp [intOf]; omega
              | false =>
                rw [hi1] at HI3
                have HQ := Lib.hid (HA10.out.bad HS0.out HDn.out (by rw [HTk1.out, if_neg (by simp [hi1])]; rfl))
                clear hi1
                go_wp2_with fail
                rw [← HW10.out]
                refine HI3.out.mono ?_
                rintro e w' ⟨rfl, rfl⟩
                clear hE1
                go_wp2
                go_ret2
                exact HQ.out
    · have HQ := Lib.hid (HA.out.fin (List.drop_eq_nil_of_le (by simp; omega)))
      clear HA
      go_wp2
      go_ret2
      exact HQ.out
end Go.Proofs.YtikohamfnnlhcaaGreatDoor

set_option linter.unusedVariables false
set_option linter.unusedSimpArgs false
namespace Go.Proofs.YtikohamfnnlhcaaGreatDoor
open Go.RowKit Go.Deep Go.Shelf

end Go.Proofs.YtikohamfnnlhcaaGreatDoor

set_option linter.unusedVariables false
set_option linter.unusedSimpArgs false
namespace Go.Proofs.YtikohamfnnlhcaaGreatDoor
open Go.RowKit Go.Deep Go.Shelf

/-- an expression in memory, in such blocks alone. -/
inductive ExP (w : World) (P : Nat → Prop) : Nat → Nat → TEx → Prop where
  | mk {b o : Nat} {op : Int} {t : TTm} {ks : List TEx} {A : Option Addr} {c : Nat} (bA oA : Nat) (hb : P b) (hbw : b < w.heap.size) (h0 : w.cell? ⟨b, o, none⟩ = some (.int .i64 op)) (h1 : TmC w b (o + 1) t) (h5 : w.cell? ⟨b, o + 5, none⟩ = some (.slice A ks.length c))
      (hl : ks.length ≤ 140737488351232) (hA : 0 < ks.length → A = some ⟨bA, oA, none⟩ ∧ bA < w.heap.size) (hk : ∀ i y, ks[i]? = some y → ExP w P bA (oA + i * 6) y) : ExP w P b o (.mk op t ks)
theorem ExP.exC {w : World} {P : Nat → Prop} {b o : Nat} {e : TEx} (h : ExP w P b o e) : ExC w b o e := by
  induction h with
  | mk bA oA hb hbw h0 h1 h5 hl hA hk ih => exact .mk bA oA h0 h1 h5 hl hA ih
theorem ExP.keep {w w' : World} {P P' : Nat → Prop} (hk : ∀ k, k < w.heap.size → P k → w'.heap[k]? = w.heap[k]?) (hs : w.heap.size ≤ w'.heap.size) (hP : ∀ k, k < w.heap.size → P k → P' k) {b o : Nat} {e : TEx} (h : ExP w P b o e) : ExP w' P' b o e := by
  induction h with
  | mk bA oA hb hbw h0 h1 h5 hl hA _ ih =>
    have hc : ∀ i v, w.cell? ⟨_, i, none⟩ = some v → w'.cell? ⟨_, i, none⟩ = some v := fun i v hv => (World.cell?_of_block (hk _ hbw hb)).trans hv
    exact .mk bA oA (hP _ hbw hb) (Nat.lt_of_lt_of_le hbw hs) (hc _ _ h0) ⟨hc _ _ h1.1, hc _ _ h1.2.1, hc _ _ h1.2.2.1, hc _ _ h1.2.2.2.1, h1.2.2.2.2⟩ (hc _ _ h5) hl (fun h => ⟨(hA h).1, Nat.lt_of_lt_of_le (hA h).2 hs⟩) ih
/-- an expression's value, its children in such blocks alone. -/
structure ExVP (w : World) (P : Nat → Prop) (e : TEx) (A : Option Addr) : Prop where
  ok : okTm e.t
  row : Rg 6 (fun w => ExP w P) w A e.kids
theorem ExVP.exV {w : World} {P : Nat → Prop} {e : TEx} {A : Option Addr} (h : ExVP w P e A) : ExV w e A :=
  ⟨h.ok, h.row.1, fun h0 => by obtain ⟨b, o, h1, h2, h3⟩ := h.row.2 h0; exact ⟨b, o, h1, h2, fun i y hy => (h3 i y hy).exC⟩⟩
theorem ExVP.keep {w w' : World} {P P' : Nat → Prop} (hk : ∀ k, k < w.heap.size → P k → w'.heap[k]? = w.heap[k]?) (hs : w.heap.size ≤ w'.heap.size) (hP : ∀ k, k < w.heap.size → P k → P' k) {e : TEx} {A : Option Addr} (h : ExVP w P e A) : ExVP w' P' e A :=
  ⟨h.ok, h.row.1, fun h0 => by obtain ⟨b, o, h1, h2, h3⟩ := h.row.2 h0; exact ⟨b, o, h1, Nat.lt_of_lt_of_le h2 hs, fun i y hy => (h3 i y hy).keep hk hs hP⟩⟩

/-- an expression's cells, its children at an address. -/
def exCl (p : TEx × Option Addr × Nat) : List Value := [.int .i64 p.1.op, .string p.1.t.v, .int .i64 p.1.t.k, .int .i64 p.1.t.n, .string p.1.t.s, .slice p.2.1 p.1.kids.length p.2.2]
def flatX : List (TEx × Option Addr × Nat) → List Value
  | [] => []
  | p :: r => exCl p ++ flatX r
theorem flatX_snoc (l : List (TEx × Option Addr × Nat)) (p : TEx × Option Addr × Nat) : flatX (l ++ [p]) = flatX l ++ exCl p := by
  induction l with
  | nil => simp [flatX]
  | cons x r ih => simp only [List.cons_append, flatX, ih, List.append_assoc]
theorem flatX_at : ∀ (l : List (TEx × Option Addr × Nat)) (i : Nat) (p : TEx × Option Addr × Nat), l[i]? = some p → ∀ k, k < 6 → (flatX l)[i * 6 + k]? = (exCl p)[k]?
  | q :: r, 0, p, h, k, hk => by
    simp only [List.getElem?_cons_zero, Option.some.injEq] at h
    subst h
    simp only [Nat.zero_mul, Nat.zero_add, flatX]
    exact List.getElem?_append_left (by simp only [exCl, List.length_cons, List.length_nil]; omega)
  | q :: r, i + 1, p, h, k, hk => by
    simp only [List.getElem?_cons_succ] at h
    have ih := flatX_at r i p h k hk
    rw [← ih]
    simp only [flatX]
    rw [List.getElem?_append_right (by simp only [exCl, List.length_cons, List.length_nil]; omega)]
    congr 1
    simp only [exCl, List.length_cons, List.length_nil]
    omega
theorem infoRex : (Tryz.prog.info? 75).map (fun i => (i.zero, i.size, i.bytes)) = some (some (.agg #[.int .i64 0, .string noText, .int .i64 0, .int .i64 0, .string noText, .slice none 0 0]), 6, 80) := by kernel_rfl
set_option maxRecDepth 100000 in
/-- 'append(own, e)', by its run. -/
theorem appX_run (w : World) (base : Nat) (v : Value) (L : List (TEx × Option Addr × Nat)) (hown : w.ownsRow base 75 6 v L.length (flatX L)) (p : TEx × Option Addr × Nat) (b : Nat) (hO : Own w b 75 (exCl p)) (hlen : L.length ≤ 100000) (hbase : base ≤ w.heap.size) :
    ∃ v' w', (Builtin.append_ #[73, 73] 73 #[v, .slice (some ⟨b, 0, none⟩) 1 1]).run Tryz.prog w = .ok v' w' ∧ w'.ownsRow base 75 6 v' (L ++ [p]).length (flatX (L ++ [p])) ∧ w.grownBy w' v.ownBlock ∧ (v'.ownBlock = v.ownBlock ∨ v'.ownBlock = some w.heap.size) := by
  obtain ⟨i, hi, hz, hs1, hb⟩ := info_parts infoRex
  have hcells : ∀ j u, (exCl p)[j]? = some u → w.cell? ((⟨b, 0, none⟩ : Addr).add j) = some u := fun j u hu => by
    rw [Addr.add_lit, Nat.zero_add, hO.cell]
    exact hu
  obtain ⟨v', w', h1, h2, h3, _, h5⟩ := run_append_own_at (P := Tryz.prog) w base 73 73 75 i _ 6 80 Tryz.underlying73 hi hz hs1 hb rfl (by decide) v L.length (flatX L) hown ⟨b, 0, none⟩ 1 1 (exCl p) rfl hcells (by simp [exCl, Value.oneCell']) (by unfold maxLen; omega) (by omega) hbase
  refine ⟨v', w', h1, ?_, h3, h5⟩
  rw [List.length_append, flatX_snoc]
  exact h2
end Go.Proofs.YtikohamfnnlhcaaGreatDoor

set_option linter.unusedVariables false
set_option linter.unusedSimpArgs false
namespace Go.Proofs.YtikohamfnnlhcaaGreatDoor
open Go.RowKit Go.Deep Go.Shelf

/-- what a copy comes to. -/
def GotX (w : World) (e : TEx) (r : Ending) (w' : World) : Prop := ∃ A c, r = .returned (exV e A c) ∧ ExVP w' (fun k => w.heap.size ≤ k) e A ∧ Below w.heap.size w w'
/-- a round's state: the copy so far. -/
structure XI (w : World) (e : TEx) (b2 b3 j : Nat) (vv : Value) (L : List (TEx × Option Addr × Nat)) (W : World) : Prop where
  own : Own W b3 75 [.int .i64 e.op, .string e.t.v, .int .i64 e.t.k, .int .i64 e.t.n, .string e.t.s, vv]
  res : Own W b2 75 [.int .i64 0, .string noText, .int .i64 0, .int .i64 0, .string noText, .slice none 0 0]
  row : W.ownsRow (b3 + 1) 75 6 vv L.length (flatX L)
  len : L.length = j
  eqs : L.map (·.1) = e.kids.take j
  kids : ∀ p ∈ L, ExVP W (fun k => b3 + 1 ≤ k ∧ some k ≠ vv.ownBlock) p.1 p.2.1
  bel : Below w.heap.size w W
  lo : w.heap.size ≤ b2
  lt : b2 < b3
theorem step_run {P : Program} {ops : Array Oper} {o : Oper} {a : Act} {w : World} {K : Act → World → Prop} {Q : Exit → Act → World → Prop} {E : Prop}
    (hg : o.guard = none) (s x : Operand) (t : TypeId) (hop : o.op = Op.call { callee := Callee.builtin Builtin.append, args := #[s, x], argTypes := #[t, t] }) (hty : o.type = t)
    (vs vx : Value) (hs : a.eval s = vs) (hx : a.eval x = vx) {v' : Value} {w' : World} (hrun : (Builtin.append_ #[t, t] t #[vs, vx]).run P w = .ok v' w') (hK : K (a.put o.dst v') w') :
    if Region.wanted o (yielded ops a.tmps) = true then Oper.wp P o a w K Q else E := by
  have hw : Region.wanted o (yielded ops a.tmps) = true := by simp [Region.wanted, hg]
  rw [if_pos hw]
  unfold Oper.wp
  simp [execOp, hop, hty, resolve, invoke, builtin, hs, hx, hrun, Result.andThen]
  exact hK
theorem step_call {P : Program} {ops : Array Oper} {o : Oper} {a : Act} {w : World} {K : Act → World → Prop} {Q : Exit → Act → World → Prop} {E : Prop}
    (hg : o.guard = none) {f : FuncId} {args : Array Value} (h : (execOp a.eval o).run P w = .ok (.enter f args) w) (hc : Calls P f args w fun e w' => ∃ v, e = .returned v ∧ K (a.put o.dst v) w') :
    if Region.wanted o (yielded ops a.tmps) = true then Oper.wp P o a w K Q else E := by
  have hw : Region.wanted o (yielded ops a.tmps) = true := by simp [Region.wanted, hg]
  rw [if_pos hw]
  unfold Oper.wp
  rw [h]
  refine hc.mono ?_
  rintro e w' ⟨v, rfl, hk⟩
  exact hk
theorem owns_off {w w' : World} {S : List Nat} {base n k : Nat} {e : TypeId} {v : Value} {xs : List Value} (h : w.ownsRow base e k v n xs) (hk : Kept S w w') (hS : ∀ j ∈ S, j < base) : w'.ownsRow base e k v n xs :=
  ⟨h.1, h.2.imp id fun ⟨g, cap, cur, h1, h2, h3, h4⟩ => ⟨g, cap, cur, h1, h2, (hk.block g (Array.getElem?_eq_some_iff.1 h3).1 (fun hm => by have := hS g hm; omega)).trans h3, h4⟩⟩
theorem XI.step {w : World} {e : TEx} {b2 b3 j : Nat} {vv : Value} {L : List (TEx × Option Addr × Nat)} {wr wx w3 w5 : World} (h : XI w e b2 b3 j vv L wr) (hlt : j < e.kids.length) {A2 : Option Addr} {c2 : Nat} {v' : Value} {tmp : Obj}
    (hbx : Below wr.heap.size wr wx) (hc : ExVP w3 (fun k => wx.heap.size ≤ k) e.kids[j] A2) (hb3 : Below wx.heap.size wx w3)
    (ho : w5.ownsRow (b3 + 1) 75 6 v' (L ++ [(e.kids[j], A2, c2)]).length (flatX (L ++ [(e.kids[j], A2, c2)]))) (hg : (w3.alloc tmp).grownBy w5 vv.ownBlock) (hat : v'.ownBlock = vv.ownBlock ∨ v'.ownBlock = some (w3.alloc tmp).heap.size) :
    XI w e b2 b3 (j + 1) v' (L ++ [(e.kids[j], A2, c2)]) (w5.setCell ⟨b3, 5, none⟩ v') := by
  have hb : Below wr.heap.size wr (w3.alloc tmp) := (hbx.trans (hb3.mono hbx.size)).alloc (Nat.le_trans hbx.size hb3.size) _
  have k5 : Kept vv.ownBlock.toList wr w5 := (Kept.of vv.ownBlock.toList hb).trans (Kept.grown hg (fun k hk => by rw [hk]; simp)) (Sub.refl _ _)
  have s3 : Kept [b3] w5 (w5.setCell ⟨b3, 5, none⟩ v') := (Kept.refl [b3] w5).setCell (.inl (by simp)) _
  have hown : ∀ k, vv.ownBlock = some k → b3 + 1 ≤ k ∧ k < wr.heap.size := h.row.lt
  have hn3 : b3 ∉ vv.ownBlock.toList := fun hm => by
    have := (hown b3 (by simpa using hm)).1
    omega
  have hn2 : b2 ∉ vv.ownBlock.toList := fun hm => by
    have h1 := (hown b2 (by simpa using hm)).1
    have h2 := h.lt
    omega
  have hO5 := k5.own h.own hn3
  have hsz1 := hb.size
  have hsz2 := hg.size
  have hsx := hbx.size
  have hs3 := hb3.size
  have hsa : (w3.alloc tmp).heap.size = w3.heap.size + 1 := by simp
  have hlt2 := h.lt
  refine ⟨hO5.set 5 v', s3.own (k5.own h.res hn2) (by simp only [List.mem_singleton]; omega), owns_off ho s3 (fun k hk => by simp only [List.mem_singleton] at hk; omega), by simp [h.len], ?_, fun p hp => ?_, ?_, h.lo, h.lt⟩
  · rw [List.map_append, h.eqs, List.map_singleton, List.take_append_getElem hlt]
  · rcases List.mem_append.1 hp with hp | hp
    · refine (h.kids p hp).keep (fun k hk hP => ?_) (Nat.le_trans k5.size s3.size) fun k hk hP => ⟨hP.1, fun e => ?_⟩
      · exact (s3.block k (Nat.lt_of_lt_of_le hk k5.size) (by simp only [List.mem_singleton]; omega)).trans (k5.block k hk (fun hm => hP.2 (by simpa using (Option.mem_toList.1 hm).symm)))
      · rcases hat with h1 | h1
        · rw [h1] at e; exact hP.2 e
        · rw [h1] at e
          injection e with e
          omega
    · simp only [List.mem_singleton] at hp
      subst hp
      refine hc.keep (fun k hk hP => ?_) ?_ fun k hk hP => ⟨by have := h.own.lt; omega, fun e => ?_⟩
      · have h1 : (w3.alloc tmp).heap[k]? = w3.heap[k]? := ((Below.refl w3.heap.size w3).alloc (Nat.le_refl _) tmp).block k hk
        have h2 : w5.heap[k]? = (w3.alloc tmp).heap[k]? := hg.block k (by omega) (fun e => by have := (hown k e.symm).2; omega)
        exact (s3.block k (by omega) (by simp only [List.mem_singleton]; have := h.own.lt; omega)).trans (h2.trans h1)
      · exact Nat.le_trans (by omega) s3.size
      · rcases hat with h1 | h1
        · rw [h1] at e; have := (hown k e.symm).2; omega
        · rw [h1] at e
          injection e with e
          omega
  · have hw := h.bel
    have hsw := hw.size
    have hlo := h.lo
    refine hw.trans ((k5.below (B := w.heap.size) hsw (fun k hk => by have := (hown k (by simpa using hk)).1; omega)).trans (s3.below (B := w.heap.size) (by have := k5.size; omega) (fun k hk => by simp only [List.mem_singleton] at hk; omega)))
theorem ExP.shut {w : World} {P : Nat → Prop} {b o c : Nat} {e : TEx} {A : Option Addr} (hb : P b) (hbw : b < w.heap.size) (h0 : w.cell? ⟨b, o, none⟩ = some (.int .i64 e.op)) (h1 : w.cell? ⟨b, o + 1, none⟩ = some (.string e.t.v)) (h2 : w.cell? ⟨b, o + 2, none⟩ = some (.int .i64 e.t.k))
    (h3 : w.cell? ⟨b, o + 3, none⟩ = some (.int .i64 e.t.n)) (h4 : w.cell? ⟨b, o + 4, none⟩ = some (.string e.t.s)) (h5 : w.cell? ⟨b, o + 5, none⟩ = some (.slice A e.kids.length c)) (hV : ExVP w P e A) : ExP w P b o e := by
  cases e with
  | mk op t ks =>
    obtain ⟨ho, hl, hr⟩ := hV
    by_cases hk : 0 < ks.length
    · obtain ⟨b', o', e1, e2, e3⟩ := hr hk
      exact .mk b' o' hb hbw h0 ⟨h1, h2, h3, h4, ho⟩ h5 hl (fun _ => ⟨e1, e2⟩) e3
    · refine .mk 0 0 hb hbw h0 ⟨h1, h2, h3, h4, ho⟩ h5 hl (fun h => absurd h hk) fun i y hy => ?_
      have : ks = [] := List.eq_nil_of_length_eq_zero (by omega)
      subst this
      cases hy
theorem XI.done {w : World} {e : TEx} {b2 b3 j : Nat} {A3 : Option Addr} {c3 : Nat} {L : List (TEx × Option Addr × Nat)} {wr W : World} (h : XI w e b2 b3 j (.slice A3 L.length c3) L wr) (hj : j = e.kids.length) (hl : e.kids.length ≤ 140737488351232) (ho : okTm e.t) (hk : Kept [b2] wr W) :
    L.length = e.kids.length ∧ ExVP W (fun k => w.heap.size ≤ k) e A3 ∧ Below w.heap.size w W := by
  have hlo := h.lo
  have hlt := h.lt
  have hlen : L.length = e.kids.length := h.len.trans hj
  have heq : L.map (·.1) = e.kids := by rw [h.eqs, hj, List.take_length]
  refine ⟨hlen, ⟨ho, hl, fun h0 => ?_⟩, h.bel.trans (hk.below h.bel.size (fun k hk => by simp only [List.mem_singleton] at hk; omega))⟩
  rcases h.row.2 with ⟨_, h2⟩ | ⟨g, cap, cur, h1, hg, hc, hcap, _, hcs, htake⟩
  · omega
  · injection h1 with h1 _ _
    subst h1
    have hgw : g < wr.heap.size := (Array.getElem?_eq_some_iff.1 hc).1
    have hgn : g ∉ [b2] := by simp only [List.mem_singleton]; omega
    refine ⟨g, 0, rfl, Nat.lt_of_lt_of_le hgw hk.size, fun i y hy => ?_⟩
    rw [← heq, List.getElem?_map] at hy
    cases hp : L[i]? with
    | none => rw [hp] at hy; cases hy
    | some p =>
      rw [hp] at hy
      simp only [Option.map_some, Option.some.injEq] at hy
      subst hy
      have hil : i < L.length := (List.getElem?_eq_some_iff.1 hp).1
      have hcell : ∀ k, k < 6 → W.cell? ⟨g, 0 + i * 6 + k, none⟩ = (exCl p)[k]? := fun k hk6 => by
        rw [hk.cell (p := ⟨g, _, none⟩) hgw hgn, cell_of_row wr g _ cur _ (0, 0) hc, ← flatX_at L i p hp k hk6, ← htake, List.getElem?_take, if_pos (by omega), Nat.zero_add]
        simp
      have hpm : p ∈ L := List.mem_of_getElem? hp
      have hv := (h.kids p hpm).keep (w' := W) (P' := fun k => w.heap.size ≤ k) (fun k hkw hP => hk.block k hkw (by simp only [List.mem_singleton]; omega)) hk.size (fun k _ hP => by have := hP.1; omega)
      exact ExP.shut (by omega) (Nat.lt_of_lt_of_le hgw hk.size) (hcell 0 (by omega)) (hcell 1 (by omega)) (hcell 2 (by omega)) (hcell 3 (by omega)) (hcell 4 (by omega)) (hcell 5 (by omega)) hv
set_option maxRecDepth 100000 in
set_option maxHeartbeats 1000000 in
theorem exp_copy (n : Nat) : ∀ (e : TEx) (A : Option Addr) (c : Nat) (w : World), cntE e ≤ n → cntE e ≤ 30000 → ExV w e A →
    Calls Tryz.prog 17 #[exV e A c] w (GotX w e) := by
  induction n with
  | zero => intro e _ _ _ h; have := cntE_pos e; omega
  | succ n ih =>
    intro e A c w hn hsz hV
    have HV := Lib.hid hV
    have hlen := hV.row.1
    have HK : Hid (∀ k (hk : k < e.kids.length), cntE e.kids[k] ≤ n) := fun k hk => by have := cntE_kid hk; omega
    have hcs : e.kids.length ≤ 30000 := by
      have h := cntEs_len e.kids; have h2 : cntEs e.kids ≤ cntE e := by (cases e with | mk o t ks => (show cntEs ks ≤ cntE (.mk o t ks); rw [cntE]; omega))
      omega
    have HO := Lib.hid hV.ok
    have HX0 : Hid (XI w e (w.heap.size + 1) (w.heap.size + 1 + 1) 0 (.slice none 0 0) [] (((w.alloc (.cells #[.int .i64 e.op, .string e.t.v, .int .i64 e.t.k, .int .i64 e.t.n, .string e.t.s, .slice A e.kids.length c] 61)).alloc (.cells #[.int .i64 0, .string ⟨#[]⟩, .int .i64 0, .int .i64 0, .string ⟨#[]⟩, .slice none 0 0] 75)).alloc (.cells #[.int .i64 e.op, .string e.t.v, .int .i64 e.t.k, .int .i64 e.t.n, .string e.t.s, .slice none 0 0] 75))) := by
      have o2 := heap_alloc_new (w.alloc (.cells #[.int .i64 e.op, .string e.t.v, .int .i64 e.t.k, .int .i64 e.t.n, .string e.t.s, .slice A e.kids.length c] 61)) (.cells #[.int .i64 0, .string ⟨#[]⟩, .int .i64 0, .int .i64 0, .string ⟨#[]⟩, .slice none 0 0] 75)
      have o3 := heap_alloc_new ((w.alloc (.cells #[.int .i64 e.op, .string e.t.v, .int .i64 e.t.k, .int .i64 e.t.n, .string e.t.s, .slice A e.kids.length c] 61)).alloc (.cells #[.int .i64 0, .string ⟨#[]⟩, .int .i64 0, .int .i64 0, .string ⟨#[]⟩, .slice none 0 0] 75)) (.cells #[.int .i64 e.op, .string e.t.v, .int .i64 e.t.k, .int .i64 e.t.n, .string e.t.s, .slice none 0 0] 75)
      simp only [World.size_alloc] at o2 o3
      have o2' : Own ((w.alloc (.cells #[.int .i64 e.op, .string e.t.v, .int .i64 e.t.k, .int .i64 e.t.n, .string e.t.s, .slice A e.kids.length c] 61)).alloc (.cells #[.int .i64 0, .string ⟨#[]⟩, .int .i64 0, .int .i64 0, .string ⟨#[]⟩, .slice none 0 0] 75)) (w.heap.size + 1) 75 [.int .i64 0, .string noText, .int .i64 0, .int .i64 0, .string noText, .slice none 0 0] := o2
      have o3' : Own (((w.alloc (.cells #[.int .i64 e.op, .string e.t.v, .int .i64 e.t.k, .int .i64 e.t.n, .string e.t.s, .slice A e.kids.length c] 61)).alloc (.cells #[.int .i64 0, .string ⟨#[]⟩, .int .i64 0, .int .i64 0, .string ⟨#[]⟩, .slice none 0 0] 75)).alloc (.cells #[.int .i64 e.op, .string e.t.v, .int .i64 e.t.k, .int .i64 e.t.n, .string e.t.s, .slice none 0 0] 75)) (w.heap.size + 1 + 1) 75 [.int .i64 e.op, .string e.t.v, .int .i64 e.t.k, .int .i64 e.t.n, .string e.t.s, .slice none 0 0] := o3
      exact ⟨o3', o2'.alloc _, World.ownsRow_nil _ _ _ _, rfl, rfl, (fun p hp => by cases hp), (((Below.refl _ _).alloc (Nat.le_refl _) _).alloc (by simp) _).alloc (by simp; omega) _, Nat.le_succ _, Nat.lt_succ_self _⟩
    obtain ⟨W, hW⟩ : ∃ W, W = (((w.alloc (.cells #[.int .i64 e.op, .string e.t.v, .int .i64 e.t.k, .int .i64 e.t.n, .string e.t.s, .slice A e.kids.length c] 61)).alloc (.cells #[.int .i64 0, .string ⟨#[]⟩, .int .i64 0, .int .i64 0, .string ⟨#[]⟩, .slice none 0 0] 75)).alloc (.cells #[.int .i64 e.op, .string e.t.v, .int .i64 e.t.k, .int .i64 e.t.n, .string e.t.s, .slice none 0 0] 75)) := ⟨_, rfl⟩
    obtain ⟨b2, hb2⟩ : ∃ b, b = w.heap.size + 1 := ⟨_, rfl⟩
    obtain ⟨b3, hb3⟩ : ∃ b, b = w.heap.size + 1 + 1 := ⟨_, rfl⟩
    rw [← hW, ← hb3, ← hb2] at HX0
    have HW := Lib.hid hW
    have HB2 := Lib.hid hb2
    have HB3 := Lib.hid hb3
    clear hW hb2 hb3
    unfold exV
    clear hn
    go_enter Tryz.func17, Tryz.ntmps17
    go_wp2_with fail
    rw [← HW.out, ← HB3.out, ← HB2.out]
    go_loopw [14] (fun i wr => ∃ (j : Nat) (vv : Value) (L : List (TEx × Option Addr × Nat)), j ≤ e.kids.length ∧ i = .int .i64 j ∧ Hid (XI w e b2 b3 j vv L wr)) (fun i _ => e.kids.length - (intOf i).toNat)
    case atStart => exact ⟨0, _, _, Nat.zero_le _, rfl, HX0⟩
    case round =>
      obtain ⟨j, vv, L, hj, rfl, HX⟩ := hrel
      have x5 := HX.out.own.cell 5
      have xq := HX.out.own.lt
      simp only [List.getElem?_cons_zero, List.getElem?_cons_succ] at x5
      have HL : Hid (L.length = j) := HX.out.len
      by_cases hlt : j < e.kids.length
      · obtain ⟨b, o, rfl, hbw, hc⟩ := HV.out.row.at_ hlt
        obtain ⟨A1, c1, d0, d1, d2, d3, d4, d5, hkv⟩ := hc.open_
        have hbel := HX.out.bel
        have d0 := (hbel.cell (p := ⟨b, _, none⟩) hbw).trans d0
        have d1 := (hbel.cell (p := ⟨b, _, none⟩) hbw).trans d1
        have d2 := (hbel.cell (p := ⟨b, _, none⟩) hbw).trans d2
        have d3 := (hbel.cell (p := ⟨b, _, none⟩) hbw).trans d3
        have d4 := (hbel.cell (p := ⟨b, _, none⟩) hbw).trans d4
        have d5 := (hbel.cell (p := ⟨b, _, none⟩) hbw).trans d5
        have hki := HK.out j hlt
        have hks : cntE e.kids[j] ≤ 30000 := by have := cntE_kid hlt; omega
        have HS : Hid (∀ (wx w3 w5 : World) (A2 : Option Addr) (c2 : Nat) (v' : Value) (tmp : Obj), Below wr.heap.size wr wx → ExVP w3 (fun k => wx.heap.size ≤ k) e.kids[j] A2 → Below wx.heap.size wx w3 →
            w5.ownsRow (b3 + 1) 75 6 v' (L ++ [(e.kids[j], A2, c2)]).length (flatX (L ++ [(e.kids[j], A2, c2)])) → (w3.alloc tmp).grownBy w5 vv.ownBlock → (v'.ownBlock = vv.ownBlock ∨ v'.ownBlock = some (w3.alloc tmp).heap.size) →
            XI w e b2 b3 (j + 1) v' (L ++ [(e.kids[j], A2, c2)]) (w5.setCell ⟨b3, 5, none⟩ v')) := fun wx w3 w5 A2 c2 v' tmp h1 h2 h3 h4 h5 h6 => HX.out.step hlt h1 h2 h3 h4 h5 h6
        have HKV := Lib.hid (hkv.below hbel)
        have HRw := Lib.hid HX.out.row
        have HOw := Lib.hid HX.out.own
        have HLo : Hid (b3 + 1 ≤ wr.heap.size) := xq
        clear hc hkv hbel
        generalize e.kids[j] = y at *
        go_wp2_with fail
        go_region_law (first
          | (refine step_run (o := ⟨some 23, _, _, _, _, _⟩) rfl (.tmp 19) (.tmp 22) 73 rfl rfl _ _ rfl rfl hrun ?_)
          | (have hbx : Below wr.heap.size wr (wr.alloc (.cells #[.int .i64 y.op, .string y.t.v, .int .i64 y.t.k, .int .i64 y.t.n, .string y.t.s, .slice A1 y.kids.length c1] 61)).drew := ((Below.refl _ _).alloc (Nat.le_refl _) _).drew
             refine step_call (o := ⟨some 21, _, _, _, _, _⟩) rfl (f := 17) (args := #[exV y A1 c1]) (by simp only [execOp, Act.eval, List.map_toArray, List.map_cons, List.map_nil]; kernel_rfl) ((ih y A1 c1 _ hki hks (HKV.out.below hbx)).mono ?_)
             rintro r w3 ⟨A2, c2, rfl, hE, hb3⟩
             refine ⟨_, rfl, ?_⟩
             have hb13 : Below wr.heap.size wr w3 := hbx.trans (hb3.mono hbx.size)
             obtain ⟨v', w5, hrun, ho, hg, hat⟩ := appX_run (w3.alloc (.cells #[.int .i64 y.op, .string y.t.v, .int .i64 y.t.k, .int .i64 y.t.n, .string y.t.s, .slice A2 y.kids.length c2] 75)) (b3 + 1) vv L ((own_below HRw.out hb13).alloc _) (y, A2, c2) w3.heap.size (heap_alloc_new _ _) (by have := HL.out; omega) (by have h1 := HLo.out; have h2 := hb13.size; simp; omega)
             obtain ⟨A3, c3, hv3, _, _⟩ := own_valueM ho
             subst hv3
             have HN := Lib.hid (HS.out _ w3 w5 A2 c2 _ _ hbx hE hb3 ho hg hat)
             simp only [List.length_append, List.length_cons, List.length_nil, Nat.zero_add] at HN
             have h3 := HOw.out.below hb13
             have z5 := h3.cell 5
             have zq := h3.lt
             have h5 : Own w5 b3 75 [.int .i64 e.op, .string e.t.v, .int .i64 e.t.k, .int .i64 e.t.n, .string e.t.s, vv] := (hg.block b3 (by simp; omega) (fun e => by have h1 := HRw.out.lt b3 e.symm; omega)).trans (h3.alloc _)
             have y5 := h5.cell 5
             have yf := h5.frozen 5
             have yq := h5.lt
             simp only [List.getElem?_cons_zero, List.getElem?_cons_succ] at z5 y5
             clear hE hb3 ho hg hat h3 h5 hb13 hbx))
        all_goals
          go_wp2
          go_roundw
          case rel => exact ⟨j + 1, _, _, by omega, by go_num, HN⟩
          case measure => simp [intOf]; omega
      · have hjk : j = e.kids.length := by omega
        obtain ⟨A3, c3, hv3, _, _⟩ := own_valueM HX.out.row
        subst hv3
        have HOo := Lib.hid HX.out.own
        have HRs := Lib.hid HX.out.res
        have hinf : (Tryz.prog.info? 75).map (·.size) = some 6 := by kernel_rfl
        clear x5
        go_wp2_with (first
          | (refine wpList_load_row (o := ⟨some 26, _, _, _, _, _⟩) rfl 75 _ rfl b3 rfl 75 #[.int .i64 e.op, .string e.t.v, .int .i64 e.t.k, .int .i64 e.t.n, .string e.t.s, .slice A3 L.length c3] (0, 0) _ HOo.out Tryz.underlying75 rfl hinf ?_)
          | (refine wpList_store_row (o := ⟨none, .store 75 _ _, _, _, _, _⟩) rfl 75 _ _ rfl b2 #[.int .i64 e.op, .string e.t.v, .int .i64 e.t.k, .int .i64 e.t.n, .string e.t.s, .slice A3 L.length c3] rfl rfl 75 _ HRs.out hinf rfl (by simp [Value.oneCell']) ?_))
        have hrow := setRow_heap wr b2 _ #[.int .i64 e.op, .string e.t.v, .int .i64 e.t.k, .int .i64 e.t.n, .string e.t.s, .slice A3 L.length c3] _ _ HRs.out
        have hkr : Kept [b2] wr (wr.setRow b2 #[.int .i64 e.op, .string e.t.v, .int .i64 e.t.k, .int .i64 e.t.n, .string e.t.s, .slice A3 L.length c3]) := ⟨rfl, rfl, rfl, by simp, fun k _ hn => setRow_other wr b2 k _ (by simpa using hn)⟩
        obtain ⟨q1, q2, q3⟩ := HX.out.done hjk hlen HO.out hkr
        refine bodyPost_ret (v := .agg #[.int .i64 e.op, .string e.t.v, .int .i64 e.t.k, .int .i64 e.t.n, .string e.t.s, .slice A3 L.length c3]) (results_cell_row (P := Tryz.prog) rfl _ _ b2 75 _ (0, 0) _ rfl hrow Tryz.underlying75 rfl hinf) rfl ?_
        exact ⟨A3, c3, by rw [q1], q2, q3⟩
end Go.Proofs.YtikohamfnnlhcaaGreatDoor

set_option linter.unusedVariables false
set_option linter.unusedSimpArgs false
namespace Go.Proofs.YtikohamfnnlhcaaGreatDoor
open Go.RowKit Go.Deep Go.Shelf

theorem one_sole {s : ByteArray} {q : Nat} (h : soleB q s = true) : lexA kindW 0 s.data.toList = ([(q, s.data.toList, 0)], none) := by
  unfold soleB at h
  have ht := of_decide_eq_true h
  obtain ⟨h2, h3⟩ := tok_skip ht
  rw [lexA_tok (by rw [h2]; exact h3) (by rw [h2]; exact ht), h2]
  rw [lexA_end (by simp)]
/-- there is no error, and one token alone, of that kind, with that text. -/
def sgB (R : List Tk × Option Nat) (q : Nat) (l : List UInt8) : Bool :=
  match R.2 with
  | some _ => false
  | none => match R.1 with
    | [x] => decide (x.1 = q) && decide (x.2.1 = l)
    | _ => false
theorem sg_sole {s : ByteArray} {q : Nat} (hq : q ≠ 0) : sgB (lexA kindW 0 s.data.toList) q s.data.toList = soleB q s := by
  cases hb : soleB q s with
  | true => rw [one_sole hb]; simp [sgB]
  | false =>
    cases hR : lexA kindW 0 s.data.toList with
    | mk l1 l2 =>
      cases l2 with
      | some p => rfl
      | none =>
        match l1, hR with
        | [], _ => rfl
        | [x], hR =>
          have h := sole_first (s := s) (q := q) (x := x) hq (by rw [hR]; exact ⟨[], rfl⟩)
          rw [hb] at h
          exact h.symm
        | _ :: _ :: _, _ => rfl
set_option maxRecDepth 100000 in
set_option maxHeartbeats 1000000 in
theorem all_is (s : ByteArray) (R : List Tk × Option Nat) (w : World) (hR : lexA kindW 0 s.data.toList = R) (hs : s.size ≤ 4000) :
    Calls Tryz.prog 100 #[.string s] w fun e w' => ∃ A c, e = .returned (.tuple (match R.2 with | none => #[.slice A R.1.length c, .int .i64 0, .int .i64 0] | some p => #[.slice none 0 0, .int .i64 (p : Int), .int .i64 2])) ∧ TRow w' A R.1 ∧ Below w.heap.size w w' := by
  have C := Lib.hid (refList_any s w (by omega))
  rw [hR] at C
  clear hR
  obtain ⟨l1, l2⟩ := R
  cases l2 with
  | none =>
    go_enter Tryz.func100, Tryz.ntmps100
    go_wp2_with fail
    refine C.out.mono ?_
    rintro e w' ⟨A, c, rfl, hr, hb⟩
    have HRr := Lib.hid hr
    have HB := Lib.hid hb
    clear hr hb
    go_wp2_with fail
    exact bodyPost_ret (v := .tuple #[.slice A l1.length c, .int .i64 0, .int .i64 0]) (by simp [results, Tryz.results100, go_sem]) rfl ⟨A, c, rfl, HRr.out, HB.out⟩
  | some p =>
    have hp : (0 : Int) ≤ p := Int.natCast_nonneg p
    go_enter Tryz.func100, Tryz.ntmps100
    go_wp2_with fail
    refine C.out.mono ?_
    rintro e w' ⟨A, c, rfl, hr, hb⟩
    have HRr := Lib.hid hr
    have HB := Lib.hid hb
    clear hr hb
    go_wp2_with fail
    exact bodyPost_ret (v := .tuple #[.slice none 0 0, .int .i64 (p : Int), .int .i64 2]) (by simp [results, Tryz.results100, go_sem]) rfl ⟨A, c, rfl, HRr.out, HB.out⟩
set_option maxRecDepth 100000 in
set_option maxHeartbeats 1000000 in
theorem single_is (s : ByteArray) (q : Nat) (w : World) (hs : s.size ≤ 4000) (hq : q ≠ 0) (hq2 : q ≤ 100) :
    Calls Tryz.prog 66 #[.string s, .int .i64 q] w fun e w' => e = .returned (.bool (soleB q s)) ∧ Below w.heap.size w w' := by
  rw [← sg_sole hq]
  have C := Lib.hid (all_is s (lexA kindW 0 s.data.toList) w rfl hs)
  generalize lexA kindW 0 s.data.toList = R at C ⊢
  obtain ⟨l1, l2⟩ := R
  cases l2 with
  | some p =>
    have HS : Hid (sgB (l1, some p) q s.data.toList = false) := rfl
    go_enter Tryz.func66, Tryz.ntmps66
    go_wp2_with fail
    refine C.out.mono ?_
    rintro e w' ⟨A, c, rfl, hr, hb⟩
    have HB := Lib.hid hb
    clear hr hb
    go_wp2_with fail
    go_ret
    rw [HS.out]
    exact ⟨rfl, HB.out⟩
  | none =>
    by_cases h1 : l1.length = 1
    · obtain ⟨x, rfl⟩ : ∃ x, l1 = [x] := by
        match l1, h1 with
        | [x], _ => exact ⟨x, rfl⟩
      have HS : Hid (sgB ([x], none) q s.data.toList = (decide (x.1 = q) && decide (x.2.1 = s.data.toList))) := rfl
      clear h1
      go_enter Tryz.func66, Tryz.ntmps66
      go_wp2_with fail
      refine C.out.mono ?_
      rintro e w' ⟨A, c, rfl, hr, hb⟩
      have HB := Lib.hid hb
      obtain ⟨b, o, rfl, hbw, hc⟩ := hr (by simp)
      obtain ⟨c0, c1, _⟩ := hc 0 x rfl
      rw [Nat.zero_mul, Nat.add_zero] at c0 c1
      obtain ⟨kq, t, at_⟩ := x
      simp only at c0 c1
      have HT : Hid (bts t = s ↔ t = s.data.toList) := ⟨fun h => by rw [← h], fun h => by rw [h, bts_of]⟩
      clear hr hb hc C
      by_cases hk : kq = q
      · subst hk
        by_cases ht : t = s.data.toList
        · have hts : bts t = s := HT.out.2 ht
          rw [hts] at c1
          clear hts
          go_wp2_with fail
          go_ret
          rw [HS.out]
          exact ⟨by simp [ht], HB.out⟩
        · have hts : ¬ bts t = s := fun h => ht (HT.out.1 h)
          clear HT
          generalize bts t = u at c1 hts
          have hts3 : (u.toList == s.toList) = false := by
            rw [beq_eq_false_iff_ne]
            exact fun h => hts (toList_inj' h)
          go_wp2_with fail
          go_ret
          rw [HS.out]
          refine ⟨?_, HB.out⟩
          rw [decide_eq_false (p := t = s.data.toList) ht, Bool.and_false]
          simp [hts3]
      · have hk2 : ¬ (kq : Int) = (q : Int) := by omega
        go_wp2_with fail
        go_ret
        rw [HS.out]
        exact ⟨by simp [hk], HB.out⟩
    · have HS : Hid (sgB (l1, none) q s.data.toList = false) := by
        match l1, h1 with
        | [], _ => rfl
        | [x], h1 => exact absurd rfl h1
        | _ :: _ :: _, _ => rfl
      have hl : ¬ (l1.length : Int) = 1 := by omega
      go_enter Tryz.func66, Tryz.ntmps66
      go_wp2_with fail
      refine C.out.mono ?_
      rintro e w' ⟨A, c, rfl, hr, hb⟩
      have HB := Lib.hid hb
      clear hr hb
      go_wp2_with fail
      go_ret
      rw [HS.out]
      exact ⟨rfl, HB.out⟩
end Go.Proofs.YtikohamfnnlhcaaGreatDoor

set_option linter.unusedVariables false
set_option linter.unusedSimpArgs false
namespace Go.Proofs.YtikohamfnnlhcaaGreatDoor
open Go.RowKit Go.Deep Go.Shelf

/-- a fact that stays while such blocks stay. -/
def Stab (w : World) (P : Nat → Prop) (F : World → Prop) : Prop := ∀ w', w.heap.size ≤ w'.heap.size → (∀ k, k < w.heap.size → P k → w'.heap[k]? = w.heap[k]?) → F w'
section
variable {w w' : World} {P P' : Nat → Prop} {F G : World → Prop}
theorem Stab.here (h : Stab w P F) : F w := h w (Nat.le_refl _) (fun _ _ _ => rfl)
theorem Stab.keep (h : Stab w P F) (hs : w.heap.size ≤ w'.heap.size) (hk : ∀ k, k < w.heap.size → P k → w'.heap[k]? = w.heap[k]?) (hP : ∀ k, k < w.heap.size → P k → P' k) : Stab w' P' F :=
  fun w2 h2 hk2 => h w2 (Nat.le_trans hs h2) (fun k hkw hp => (hk2 k (Nat.lt_of_lt_of_le hkw hs) (hP k hkw hp)).trans (hk k hkw hp))
theorem Stab.below (h : Stab w P F) (hb : Below w.heap.size w w') : Stab w' P F := h.keep hb.size (fun k hk _ => hb.block k hk) (fun _ _ h => h)
theorem Stab.more (h : Stab w P F) (hP : ∀ k, k < w.heap.size → P k → P' k) : Stab w P' F := h.keep (Nat.le_refl _) (fun _ _ _ => rfl) hP
theorem Stab.imp (h : Stab w P F) (hi : ∀ W, F W → G W) : Stab w P G := fun w' h1 h2 => hi _ (h w' h1 h2)
theorem Stab.and (h : Stab w P F) (h' : Stab w P G) : Stab w P (fun W => F W ∧ G W) := fun w' h1 h2 => ⟨h w' h1 h2, h' w' h1 h2⟩
/-- what stays whatever is made. -/
theorem Stab.old {n : Nat} (hF : ∀ W, Pers w W → F W) : Stab w (fun k => k < w.heap.size) F := fun w' h1 h2 =>
  hF w' ⟨h1, fun p v hp => by
    have hb := World.block_lt_of_cell? w p hp
    exact (World.cell?_of_block (w := w) (h2 p.block hb hb)).trans hp⟩
end
/-- a row of the call's own: the cells of its elements, and what is known of each. -/
structure GR {α : Type} (K : Nat) (E : TypeId) (F : World → List Value → α → Prop) (B0 base : Nat) (v : Value) (xs : List α) (css : List (List Value)) (W : World) : Prop where
  own : W.ownsRow base E K v xs.length css.flatten
  len : css.length = xs.length
  each : ∀ cs ∈ css, cs.length = K
  fact : ∀ (i : Nat) x cs, xs[i]? = some x → css[i]? = some cs → Stab W (fun k => (k < B0 ∨ base ≤ k) ∧ some k ≠ v.ownBlock) (fun W => F W cs x)
theorem flat_at {K : Nat} : ∀ (css : List (List Value)), (∀ cs ∈ css, cs.length = K) → ∀ (i : Nat) cs, css[i]? = some cs → ∀ j, j < K → css.flatten[i * K + j]? = cs[j]?
  | [], _, i, cs, h, _, _ => by cases h
  | c :: r, hK, 0, cs, h, j, hj => by
    simp only [List.getElem?_cons_zero, Option.some.injEq] at h
    subst h
    rw [List.flatten_cons, Nat.zero_mul, Nat.zero_add]
    exact List.getElem?_append_left (by rw [hK c (by simp)]; exact hj)
  | c :: r, hK, i + 1, cs, h, j, hj => by
    simp only [List.getElem?_cons_succ] at h
    have hc := hK c (by simp)
    rw [← flat_at r (fun x hx => hK x (by simp [hx])) i cs h j hj, List.flatten_cons, List.getElem?_append_right (by rw [hc, Nat.add_mul]; omega), hc]
    congr 1
    rw [Nat.add_mul]
    omega
section
variable {α : Type} {K : Nat} {E : TypeId} {F : World → List Value → α → Prop} {B0 base : Nat} {v : Value} {xs : List α} {css : List (List Value)} {W W' : World}
theorem GR.nil (W : World) : GR K E F B0 base (.slice none 0 0) [] [] W := ⟨World.ownsRow_nil _ _ _ _, rfl, (fun cs h => by cases h), (fun i x cs h => by cases h)⟩
theorem GR.kept {S : List Nat} (h : GR K E F B0 base v xs css W) (hk : Kept S W W') (hS : ∀ k ∈ S, B0 ≤ k ∧ k < base) : GR K E F B0 base v xs css W' :=
  ⟨owns_off h.own hk (fun k hs => (hS k hs).2), h.len, h.each, fun i x cs h1 h2 => (h.fact i x cs h1 h2).keep hk.size (fun k hkw hp => hk.block k hkw (fun hs => by have := hS k hs; have := hp.1; omega)) (fun _ _ h => h)⟩
theorem GR.below (h : GR K E F B0 base v xs css W) (hb : Below W.heap.size W W') : GR K E F B0 base v xs css W' := h.kept (Kept.of [] hb) (fun _ h => by cases h)
theorem GR.box (h : GR K E F B0 base v xs css W) {p : Addr} (h1 : B0 ≤ p.block) (h2 : p.block < base) (u : Value) : GR K E F B0 base v xs css (W.setCell p u) :=
  h.kept (S := [p.block]) ((Kept.refl _ W).setCell (.inl (by simp)) u) (fun k hk => by simp only [List.mem_singleton] at hk; subst hk; exact ⟨h1, h2⟩)
theorem GR.lt (h : GR K E F B0 base v xs css W) : ∀ k, v.ownBlock = some k → base ≤ k ∧ k < W.heap.size := h.own.lt
theorem GR.val (h : GR K E F B0 base v xs css W) : ∃ A c, v = .slice A xs.length c := by
  obtain ⟨A, c, h1, _⟩ := own_valueM h.own
  exact ⟨A, c, h1⟩
theorem GR.app {P : Program} {S : TypeId} (h : GR K E F B0 base v xs css W) (hu : P.underlying S = some (.slice E)) {z : Value} {bytes : Nat} (hi : (P.info? E).map (fun i => (i.zero, i.size, i.bytes)) = some (some z, K, bytes)) (hzs : z.cells.size = K) (hK : 0 < K)
    (x : α) (cs : List Value) (hcl : cs.length = K) (h1 : ∀ u ∈ cs, u.oneCell' = true) {b : Nat} {T : TypeId} (hO : Own W b T cs) (hx : Stab W (fun k => (k < B0 ∨ base ≤ k) ∧ some k ≠ v.ownBlock) (fun W => F W cs x))
    (hlen : xs.length ≤ 100000) (hby : bytes ≤ 1000) (hbase : base ≤ W.heap.size) :
    ∃ v' w', (Builtin.append_ #[S, S] S #[v, .slice (some ⟨b, 0, none⟩) 1 1]).run P W = .ok v' w' ∧ GR K E F B0 base v' (xs ++ [x]) (css ++ [cs]) w' ∧ W.grownBy w' v.ownBlock ∧ (v'.ownBlock = v.ownBlock ∨ v'.ownBlock = some W.heap.size) := by
  obtain ⟨i, hi, hz, hs1, hb⟩ := info_parts hi
  have hcells : ∀ j u, cs[j]? = some u → W.cell? ((⟨b, 0, none⟩ : Addr).add j) = some u := fun j u hu => by
    rw [Addr.add_lit, Nat.zero_add, hO.cell]
    exact hu
  have hbb : (xs.length + 1) * bytes ≤ 140737488355328 := Nat.le_trans (Nat.mul_le_mul (by omega : xs.length + 1 ≤ 100001) hby) (by decide)
  obtain ⟨v', w', g1, g2, g3, _, g5⟩ := run_append_own_at (P := P) W base S S E i z K bytes hu hi hz hs1 hb hzs hK v xs.length css.flatten h.own ⟨b, 0, none⟩ 1 1 cs (by omega) hcells h1 (by unfold maxLen; omega) hbb hbase
  have hP : ∀ k, k < W.heap.size → ((k < B0 ∨ base ≤ k) ∧ some k ≠ v.ownBlock) → ((k < B0 ∨ base ≤ k) ∧ some k ≠ v'.ownBlock) := fun k hk hp => ⟨hp.1, fun e => by
    rcases g5 with h5 | h5
    · rw [h5] at e; exact hp.2 e
    · rw [h5] at e; injection e with e; omega⟩
  refine ⟨v', w', g1, ⟨?_, by simp [h.len], ?_, ?_⟩, g3, g5⟩
  · rw [List.length_append, List.flatten_append, List.flatten_singleton]
    exact g2
  · intro c hc
    rcases List.mem_append.1 hc with hc | hc
    · exact h.each c hc
    · simp only [List.mem_singleton] at hc
      subst hc
      exact hcl
  · intro i y c h2 h3
    by_cases hi : i < xs.length
    · rw [List.getElem?_append_left hi] at h2
      rw [List.getElem?_append_left (by rw [h.len]; exact hi)] at h3
      exact (h.fact i y c h2 h3).keep g3.size (fun k hk hp => g3.block k hk hp.2) hP
    · rw [List.getElem?_append_right (by omega)] at h2
      rw [List.getElem?_append_right (by rw [h.len]; omega)] at h3
      have hlt := (List.getElem?_eq_some_iff.1 h2).1
      have h0 : i - xs.length = 0 := by simp at hlt; omega
      have h0' : i - css.length = 0 := by rw [h.len]; exact h0
      rw [h0] at h2
      rw [h0'] at h3
      simp only [List.getElem?_cons_zero, Option.some.injEq] at h2 h3
      subst h2 h3
      exact hx.keep g3.size (fun k hk hp => g3.block k hk hp.2) hP
/-- the row, told as any row. -/
theorem GR.rg {Q : World → Nat → Nat → α → Prop} {A : Option Addr} {c n : Nat} (h : GR K E F B0 base (.slice A n c) xs css W) (hn : n = xs.length)
    (hQ : ∀ (W : World) b o x cs, cs.length = K → (∀ (j : Nat) u, cs[j]? = some u → W.cell? ⟨b, o + j, none⟩ = some u) → F W cs x → Q W b o x) (hl : xs.length ≤ 140737488351232) :
    Stab W (fun k => k < B0 ∨ base ≤ k) (fun W => Rg K Q W A xs) := by
  subst hn
  intro w' hs hk
  refine ⟨hl, fun h0 => ?_⟩
  rcases h.own.2 with ⟨_, h2⟩ | ⟨g, cap, cur, h1, hg, hc, hcap, _, hcs, htake⟩
  · omega
  · injection h1 with h1 _ _
    subst h1
    have hgw : g < W.heap.size := (Array.getElem?_eq_some_iff.1 hc).1
    have hg' := hk g hgw (.inr hg)
    refine ⟨g, 0, rfl, Nat.lt_of_lt_of_le hgw hs, fun i y hy => ?_⟩
    have hil := (List.getElem?_eq_some_iff.1 hy).1
    have hcl : i < css.length := by rw [h.len]; exact hil
    have hci := List.getElem?_eq_getElem hcl
    have hK := h.each _ (List.getElem_mem hcl)
    refine hQ w' g (0 + i * K) y css[i] hK (fun j u hu => ?_) (h.fact i y _ hy hci w' hs (fun k hkw hp => hk k hkw hp.1))
    have hj : j < K := by have := (List.getElem?_eq_some_iff.1 hu).1; omega
    have e1 : w'.cell? ⟨g, 0 + i * K + j, none⟩ = W.cell? ⟨g, 0 + i * K + j, none⟩ := World.cell?_of_block (w := W) hg'
    have hle : i * K + j < xs.length * K := by
      have : (i + 1) * K ≤ xs.length * K := Nat.mul_le_mul_right K hil
      rw [Nat.add_mul] at this
      omega
    rw [e1, cell_of_row W g _ cur _ (0, 0) hc, ← hu, ← flat_at css h.each i _ hci j hj, ← htake, List.getElem?_take, if_pos hle, Nat.zero_add]
    simp
end
/-- what is known of the cells of each kind of thing. -/
def FTm (_ : World) (cs : List Value) (t : TTm) : Prop := cs = [.string t.v, .int .i64 t.k, .int .i64 t.n, .string t.s] ∧ okTm t
def ltL (x : TLt) (A : Option Addr) (c : Nat) (L : Option Addr) (d : Nat) (R : Option Addr) (f : Nat) : List Value :=
  [.int .i64 x.kind, .string x.atom.rel, .slice A x.atom.args.length c, .int .i64 x.op, .int .i64 x.left.op, .string x.left.t.v, .int .i64 x.left.t.k, .int .i64 x.left.t.n, .string x.left.t.s, .slice L x.left.kids.length d,
    .int .i64 x.right.op, .string x.right.t.v, .int .i64 x.right.t.k, .int .i64 x.right.t.n, .string x.right.t.s, .slice R x.right.kids.length f, .int .i64 x.pos]
def FLt (w : World) (cs : List Value) (x : TLt) : Prop := ∃ A c L d R f, cs = ltL x A c L d R f ∧ LtV w x A L R
def FRu (w : World) (cs : List Value) (r : TRu) : Prop := ∃ A c B d, cs = [.string r.head.rel, .slice A r.head.args.length c, .int .i64 r.agg, .int .i64 r.col, .slice B r.body.length d, .int .i64 r.pos] ∧ RuV w r A B
def FDe (w : World) (cs : List Value) (d : TDe) : Prop := ∃ A c, cs = [.string d.rel, .slice A d.kinds.length c, .int .i64 d.pos] ∧ Rg 1 IntC w A d.kinds ∧ d.rel.size ≤ 140737488351232
theorem FTm.c (W : World) (b o : Nat) (x : TTm) (cs : List Value) (_ : cs.length = 4) (h : ∀ (j : Nat) u, cs[j]? = some u → W.cell? ⟨b, o + j, none⟩ = some u) (hF : FTm W cs x) : TmC W b o x := by
  obtain ⟨rfl, ho⟩ := hF
  exact ⟨h 0 _ rfl, h 1 _ rfl, h 2 _ rfl, h 3 _ rfl, ho⟩
theorem FLt.c (W : World) (b o : Nat) (x : TLt) (cs : List Value) (_ : cs.length = 17) (h : ∀ (j : Nat) u, cs[j]? = some u → W.cell? ⟨b, o + j, none⟩ = some u) (hF : FLt W cs x) : LtC W b o x := by
  obtain ⟨A, c, L, d, R, f, rfl, hV⟩ := hF
  exact LtC.shut (A := A) (c := c) (L := L) (d := d) (R := R) (f := f) ⟨h 0 _ rfl, h 1 _ rfl, h 2 _ rfl, h 3 _ rfl, ⟨h 4 _ rfl, h 5 _ rfl, h 6 _ rfl, h 7 _ rfl, h 8 _ rfl, h 9 _ rfl⟩, ⟨h 10 _ rfl, h 11 _ rfl, h 12 _ rfl, h 13 _ rfl, h 14 _ rfl, h 15 _ rfl⟩, h 16 _ rfl⟩ hV
theorem FRu.c (W : World) (b o : Nat) (x : TRu) (cs : List Value) (_ : cs.length = 6) (h : ∀ (j : Nat) u, cs[j]? = some u → W.cell? ⟨b, o + j, none⟩ = some u) (hF : FRu W cs x) : RuC W b o x := by
  obtain ⟨A, c, B, d, rfl, hV⟩ := hF
  exact RuC.shut (h 0 _ rfl) (h 1 _ rfl) (h 2 _ rfl) (h 3 _ rfl) (h 4 _ rfl) (h 5 _ rfl) hV
theorem FDe.c (W : World) (b o : Nat) (x : TDe) (cs : List Value) (_ : cs.length = 3) (h : ∀ (j : Nat) u, cs[j]? = some u → W.cell? ⟨b, o + j, none⟩ = some u) (hF : FDe W cs x) : DeC W b o x := by
  obtain ⟨A, c, rfl, hR, hl⟩ := hF
  exact ⟨h 0 _ rfl, ⟨A, c, h 1 _ rfl, hR⟩, h 2 _ rfl, hl⟩
end Go.Proofs.YtikohamfnnlhcaaGreatDoor
