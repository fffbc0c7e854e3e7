/- The document's side: bytes, words, lists of texts. Conditions: texts of at most Go's longest. The document's side: which kind a word is; which sign a text begins with. Conditions: texts of at most Go's longest. The document's list of tokens. Conditions: texts of at most 10000 bytes. The document's list of tokens: its walk. Conditions: texts of at most 10000 bytes. -/
import Derived.Test.YtikohamfnnlhcaaGreatDoorPbLexK
import Derived.Test.YtikohamfnnlhcaaGreatDoorPbValParsesA
namespace Go.Proofs.YtikohamfnnlhcaaGreatDoor
open Go.RowKit Go.Deep Go.Shelf

/-- the ways of a byte, as the document asks for them. -/
theorem ins_cases (c : UInt8) : (97 ≤ (c.toNat : Int) ∧ (c.toNat : Int) ≤ 122 ∧ wb c = true) ∨
    ((¬ 97 ≤ (c.toNat : Int) ∨ ¬ (c.toNat : Int) ≤ 122) ∧ ((65 ≤ (c.toNat : Int) ∧ (c.toNat : Int) ≤ 90 ∧ wb c = true) ∨ (¬ 65 ≤ (c.toNat : Int) ∨ ¬ (c.toNat : Int) ≤ 90) ∧ (48 ≤ (c.toNat : Int) ∧ (c.toNat : Int) ≤ 57 ∧ wb c = true ∨ (¬ 48 ≤ (c.toNat : Int) ∨ ¬ (c.toNat : Int) ≤ 57) ∧ wb c = ((c.toNat : Int) == 95)))) := by
  rcases wb_cases c with h | ⟨h1, ⟨h2, h⟩ | ⟨h2, h3⟩⟩
  · exact .inl h
  · simp only [upB, Bool.and_eq_true, decide_eq_true_eq] at h2
    exact .inr ⟨h1, .inl ⟨h2.1, h2.2, h⟩⟩
  · refine .inr ⟨h1, .inr ⟨?_, h3⟩⟩
    by_cases h65 : 65 ≤ (c.toNat : Int)
    · refine .inr fun h90 => ?_
      simp [upB, h65, h90] at h2
    · exact .inl h65

set_option maxRecDepth 100000 in
set_option maxHeartbeats 1000000 in
theorem inside_any (c : UInt8) (w : World) :
    Calls Tryz.prog 143 #[.int .u8 c.toNat] w fun e w' => e = .returned (.bool (wb c)) ∧ w = w' := by
  rcases ins_cases c with ⟨h1, h2, h⟩ | ⟨h1, ⟨h2, h3, h⟩ | ⟨h2, ⟨h3, h4, h⟩ | ⟨h3, h⟩⟩⟩
  · rw [h]; clear h
    go_enter Tryz.func143, Tryz.ntmps143
    go_wp2
    go_ret
    exact ⟨rfl, rfl⟩
  · rw [h]; clear h
    rcases h1 with h1 | h1
    all_goals
      go_enter Tryz.func143, Tryz.ntmps143
      go_wp2
    all_goals
      go_ret
      exact ⟨rfl, rfl⟩
  · rw [h]; clear h
    rcases h1 with h1 | h1 <;> rcases h2 with h2 | h2
    all_goals
      go_enter Tryz.func143, Tryz.ntmps143
      go_wp2
    all_goals
      go_ret
      exact ⟨ret_bool (by simp; try omega), rfl⟩
  · have H := Lib.hid h
    clear h
    rcases h1 with h1 | h1 <;> rcases h2 with h2 | h2 <;> rcases h3 with h3 | h3
    all_goals
      go_enter Tryz.func143, Tryz.ntmps143
      go_wp2
    all_goals
      go_ret
      exact ⟨ret_bool (by have e := H.out; rw [e]; try (simp; try omega)), rfl⟩
theorem inside_is (c : UInt8) (b : Bool) (h : wb c = b) (w : World) : Calls Tryz.prog 143 #[.int .u8 c.toNat] w fun e w' => e = .returned (.bool b) ∧ w = w' := by
  rw [← h]; exact inside_any c w

/-- texts that lie in a row. -/
def SRow (w : World) (b o : Nat) (L : List (List UInt8)) : Prop := ∀ (i : Nat) x, L[i]? = some x → w.cell? ⟨b, o + i, none⟩ = some (.string (bts x))
/-- is it one of them? -/
def inB (L : List (List UInt8)) (l : List UInt8) : Bool := L.contains l
theorem in_yes {L : List (List UInt8)} {l : List UInt8} {k : Nat} (hk : k < L.length) (h : l = L[k]) : inB L l = true := by
  unfold inB
  rw [List.contains_iff_mem, h]
  exact List.getElem_mem hk
theorem in_no {L : List (List UInt8)} {l : List UInt8} (h : ∀ j (hj : j < L.length), l ≠ L[j]) : inB L l = false := by
  cases hc : inB L l with
  | false => rfl
  | true =>
    unfold inB at hc
    rw [List.contains_iff_mem] at hc
    obtain ⟨j, hj, e⟩ := List.mem_iff_getElem.1 hc
    exact absurd e.symm (h j hj)

set_option maxRecDepth 100000 in
set_option maxHeartbeats 1000000 in
theorem in_any (b o c : Nat) (L : List (List UInt8)) (s : ByteArray) (w : World) (hl : L.length ≤ 100) (hr : SRow w b o L) :
    Calls Tryz.prog 145 #[.slice (some ⟨b, o, none⟩) L.length c, .string s] w fun e w' => e = .returned (.bool (inB L s.data.toList)) ∧ w = w' := by
  have HR := Lib.hid hr
  clear hr
  go_enter Tryz.func145, Tryz.ntmps145
  go_wp2
  go_loop [5] (fun i => ∃ k : Nat, k ≤ L.length ∧ i = .int .i64 k ∧ Hid (∀ j (hj : j < L.length), j < k → s.data.toList ≠ L[j])) (fun i => L.length - (intOf i).toNat)
  case atStart => exact ⟨0, Nat.zero_le _, rfl, fun _ _ h => absurd h (by omega)⟩
  case round =>
    obtain ⟨k, hk, rfl, HK⟩ := hrel
    by_cases hlt : k < L.length
    · have hx := HR.out k _ (List.getElem?_eq_getElem hlt)
      by_cases he : s.data.toList = L[k]
      · have HQ := Lib.hid (in_yes hlt he)
        have h1 : (L[k] == s.toList) = true := by rw [Lib.toList_data, he]; simp
        clear he HK
        generalize L[k] = t at hx h1
        go_wp2
        go_ret
        exact ⟨ret_bool HQ.out.symm, rfl⟩
      · have HQ : Hid (∀ j (hj : j < L.length), j < k + 1 → s.data.toList ≠ L[j]) := fun j hj h => by
          by_cases h2 : j = k
          · subst h2; exact he
          · exact HK.out j hj (by omega)
        have h1 : (L[k] == s.toList) = false := by rw [Lib.toList_data]; simpa using fun h => he h.symm
        clear he HK
        generalize L[k] = t at hx h1
        go_wp2
        go_round
        case rel => exact ⟨k + 1, by omega, by go_num, HQ⟩
        case measure => simp [intOf]; omega
    · have HQ := Lib.hid (in_no fun j hj => HK.out j hj (by omega))
      go_wp2
      go_ret
      exact ⟨ret_bool HQ.out.symm, rfl⟩
end Go.Proofs.YtikohamfnnlhcaaGreatDoor

namespace Go.Proofs.YtikohamfnnlhcaaGreatDoor
open Go.RowKit Go.Deep Go.Shelf

theorem var_ways (s : ByteArray) (h0 : 0 < s.size) : varB s.data.toList = true ∧ (65 : Int) ≤ (s[0].toNat : Int) ∧ (s[0].toNat : Int) ≤ 90 ∧ (s.size : Int) ≤ 32 ∨ varB s.data.toList = false ∧ (¬ (65 : Int) ≤ (s[0].toNat : Int) ∨ ((65 : Int) ≤ (s[0].toNat : Int) ∧ ¬ (s[0].toNat : Int) ≤ 90) ∨ ((65 : Int) ≤ (s[0].toNat : Int) ∧ (s[0].toNat : Int) ≤ 90 ∧ ¬ (s.size : Int) ≤ 32)) := by
  have HV : varB s.data.toList = (upB s[0] && decide ((s.size : Int) ≤ 32)) := by
    have e := drop_at s h0
    rw [List.drop_zero] at e
    have hz : s.data.toList.length = s.size := by simp
    rw [← hz]
    conv => lhs; rw [e]
    simp only [varB]
    congr 1
    rw [← e]
  rw [HV]
  by_cases h65 : (65 : Int) ≤ (s[0].toNat : Int)
  · by_cases h90 : (s[0].toNat : Int) ≤ 90
    · by_cases h32 : (s.size : Int) ≤ 32
      · exact .inl ⟨by simp [upB, h65, h90, h32], h65, h90, h32⟩
      · exact .inr ⟨by simp [h32], .inr (.inr ⟨h65, h90, h32⟩)⟩
    · exact .inr ⟨by simp [upB, h90], .inr (.inl ⟨h65, h90⟩)⟩
  · exact .inr ⟨by simp [upB, h65], .inl h65⟩
theorem inB_key (l : List UInt8) : inB keysL l = keyB l := rfl

set_option maxRecDepth 100000 in
set_option maxHeartbeats 2000000 in
theorem word_any (s : ByteArray) (w : World) (hs : s.size ≤ maxLen) (h0 : 0 < s.size) :
    Calls Tryz.prog 144 #[.string s] w fun e w' => e = .returned (.int .i64 (kindW s.data.toList)) ∧ Below w.heap.size w w' := by
  have hO : Own (w.alloc (.cells #[.string (bts [114,101,108]), .string (bts [105,110,116]), .string (bts [115,121,109]), .string (bts [110,111,116]), .string (bts [99,111,117,110,116]), .string (bts [115,117,109]), .string (bts [109,105,110]), .string (bts [109,97,120])] 9)) w.heap.size 9 (keysL.map fun l => .string (bts l)) := heap_alloc_new w _
  have hB0 : Below w.heap.size w (w.alloc (.cells #[.string (bts [114,101,108]), .string (bts [105,110,116]), .string (bts [115,121,109]), .string (bts [110,111,116]), .string (bts [99,111,117,110,116]), .string (bts [115,117,109]), .string (bts [109,105,110]), .string (bts [109,97,120])] 9)) := (Below.refl _ _).alloc (Nat.le_refl _) _
  have hw0 : ∃ w0, w0 = (w.alloc (.cells #[.string (bts [114,101,108]), .string (bts [105,110,116]), .string (bts [115,121,109]), .string (bts [110,111,116]), .string (bts [99,111,117,110,116]), .string (bts [115,117,109]), .string (bts [109,105,110]), .string (bts [109,97,120])] 9)) := ⟨_, rfl⟩
  obtain ⟨w0, hw0⟩ := hw0
  rw [← hw0] at hO hB0
  have HI := Lib.hid (in_any w.heap.size 0 8 keysL s w0 (by decide) (fun i x hx => by rw [Nat.zero_add, hO.cell, List.getElem?_map, hx]; rfl))
  rw [inB_key] at HI
  have HW := Lib.hid hw0
  have B0 := Lib.hid hB0
  have HVW := Lib.hid (var_ways s h0)
  have hs' := hs
  unfold maxLen at hs
  clear hO hB0 hw0
  cases h1 : keyB s.data.toList with
  | true =>
    have HQ : Hid (kindW s.data.toList = 1) := by show _ = _; simp [kindW, h1]
    rw [h1] at HI
    clear h1 HVW
    go_enter Tryz.func144, Tryz.ntmps144
    go_wp2_with fail
    rw [← HW.out]
    refine HI.out.mono ?_
    rintro e w1 ⟨rfl, rfl⟩
    go_wp2
    go_ret
    exact ⟨by rw [HQ.out]; rfl, B0.out⟩
  | false =>
    rw [h1] at HI
    cases h2 : isName s.data.toList with
    | true =>
      have HQ : Hid (kindW s.data.toList = 2) := by show _ = _; simp [kindW, h1, h2]
      have HN := Lib.hid (refName_is s true h2 hs' w0)
      clear h1 h2 HVW
      go_enter Tryz.func144, Tryz.ntmps144
      go_wp2_with fail
      rw [← HW.out]
      refine HI.out.mono ?_
      rintro e w1 ⟨rfl, rfl⟩
      go_wp2_with fail
      refine HN.out.mono ?_
      rintro e w1 ⟨rfl, rfl⟩
      go_wp2
      go_ret
      exact ⟨by rw [HQ.out]; rfl, B0.out⟩
    | false =>
      have HN := Lib.hid (refName_is s false h2 hs' w0)
      rcases HVW.out with ⟨hv, v1, v2, v3⟩ | ⟨hv, hv2⟩
      · have HQ : Hid (kindW s.data.toList = 3) := by show _ = _; simp [kindW, h1, h2, hv]
        clear h1 h2 HVW hv
        go_enter Tryz.func144, Tryz.ntmps144
        go_wp2_with fail
        rw [← HW.out]
        refine HI.out.mono ?_
        rintro e w1 ⟨rfl, rfl⟩
        go_wp2_with fail
        refine HN.out.mono ?_
        rintro e w1 ⟨rfl, rfl⟩
        go_wp2
        go_ret
        exact ⟨by rw [HQ.out]; rfl, B0.out⟩
      · have HP := Lib.hid (refParse_any s w0 hs' h2)
        cases h4 : pv s.data.toList with
        | some n =>
          have HQ : Hid (kindW s.data.toList = 4) := by show _ = _; simp [kindW, h1, h2, hv, h4]
          rw [h4] at HP
          simp only [outV] at HP
          clear h1 h2 HVW hv h4
          rcases hv2 with v | ⟨v, v'⟩ | ⟨v, v', v''⟩
          all_goals
            go_enter Tryz.func144, Tryz.ntmps144
            go_wp2_with fail
            rw [← HW.out]
            refine HI.out.mono ?_
            rintro e w1 ⟨rfl, rfl⟩
            go_wp2_with fail
            refine HN.out.mono ?_
            rintro e w1 ⟨rfl, rfl⟩
            go_wp2_with fail
            refine HP.out.mono ?_
            rintro e w2 ⟨rfl, b2⟩
            have B2 := Lib.hid (B0.out.trans (b2.mono B0.out.size))
            clear b2
            go_wp2
            go_ret
            exact ⟨by rw [HQ.out]; rfl, B2.out.alloc B2.out.size _⟩
        | none =>
          have HQ : Hid (kindW s.data.toList = 0) := by show _ = _; simp [kindW, h1, h2, hv, h4]
          rw [h4] at HP
          simp only [outV] at HP
          clear h1 h2 HVW hv h4
          rcases hv2 with v | ⟨v, v'⟩ | ⟨v, v', v''⟩
          all_goals
            go_enter Tryz.func144, Tryz.ntmps144
            go_wp2_with fail
            rw [← HW.out]
            refine HI.out.mono ?_
            rintro e w1 ⟨rfl, rfl⟩
            go_wp2_with fail
            refine HN.out.mono ?_
            rintro e w1 ⟨rfl, rfl⟩
            go_wp2_with fail
            refine HP.out.mono ?_
            rintro e w2 ⟨rfl, b2⟩
            have B2 := Lib.hid (B0.out.trans (b2.mono B0.out.size))
            clear b2
            go_wp2
            go_ret
            exact ⟨by rw [HQ.out]; rfl, B2.out.alloc B2.out.size _⟩

/-- the signs of two bytes, and of one. -/
def twoL : List (List UInt8) := [[58,45],[33,61],[60,61],[62,61]]
def oneL : List (List UInt8) := [[40],[41],[44],[46],[61],[60],[62],[43],[45],[42]]
theorem pre_two {a b : UInt8} {l : List UInt8} : ([a, b] : List UInt8).isPrefixOf l = (l.take 2 == [a, b]) := by
  match l with
  | [] => rfl
  | [c] => simp [List.isPrefixOf]
  | c :: d :: r =>
    simp only [List.isPrefixOf, List.take_succ_cons, List.take_zero]
    rw [Bool.eq_iff_iff]
    simp only [Bool.and_eq_true, beq_iff_eq, List.cons.injEq, and_true]
    exact ⟨fun h => ⟨h.1.symm, h.2.symm⟩, fun h => ⟨h.1.symm, h.2.symm⟩⟩
theorem pre_one {a : UInt8} {l : List UInt8} : ([a] : List UInt8).isPrefixOf l = (l.take 1 == [a]) := by
  match l with
  | [] => rfl
  | c :: r =>
    simp only [List.isPrefixOf, List.take_succ_cons, List.take_zero]
    rw [Bool.eq_iff_iff]
    simp only [Bool.and_eq_true, beq_iff_eq, List.cons.injEq, and_true]
    exact ⟨fun h => h.symm, fun h => h.symm⟩
theorem signOf_eq (l : List UInt8) : signOf l = if inB twoL (l.take 2) = true then some (l.take 2) else if inB oneL (l.take 1) = true then some (l.take 1) else none := by
  unfold signOf signsL inB twoL oneL
  simp only [List.find?_cons, List.find?_nil, pre_two, pre_one, List.contains_cons, List.contains_nil, Bool.or_false]
  generalize l.take 2 = x
  generalize l.take 1 = y
  by_cases a1 : x = [58, 45]
  · subst a1; rfl
  by_cases a2 : x = [33, 61]
  · subst a2; rfl
  by_cases a3 : x = [60, 61]
  · subst a3; rfl
  by_cases a4 : x = [62, 61]
  · subst a4; rfl
  have e1 : (x == [58, 45]) = false := by simpa using a1
  have e2 : (x == [33, 61]) = false := by simpa using a2
  have e3 : (x == [60, 61]) = false := by simpa using a3
  have e4 : (x == [62, 61]) = false := by simpa using a4
  simp only [e1, e2, e3, e4, Bool.or_self, Bool.false_eq_true, if_false]
  by_cases b1 : y = [40]
  · subst b1; rfl
  by_cases b2 : y = [41]
  · subst b2; rfl
  by_cases b3 : y = [44]
  · subst b3; rfl
  by_cases b4 : y = [46]
  · subst b4; rfl
  by_cases b5 : y = [61]
  · subst b5; rfl
  by_cases b6 : y = [60]
  · subst b6; rfl
  by_cases b7 : y = [62]
  · subst b7; rfl
  by_cases b8 : y = [43]
  · subst b8; rfl
  by_cases b9 : y = [45]
  · subst b9; rfl
  by_cases b10 : y = [42]
  · subst b10; rfl
  have f1 : (y == [40]) = false := by simpa using b1
  have f2 : (y == [41]) = false := by simpa using b2
  have f3 : (y == [44]) = false := by simpa using b3
  have f4 : (y == [46]) = false := by simpa using b4
  have f5 : (y == [61]) = false := by simpa using b5
  have f6 : (y == [60]) = false := by simpa using b6
  have f7 : (y == [62]) = false := by simpa using b7
  have f8 : (y == [43]) = false := by simpa using b8
  have f9 : (y == [45]) = false := by simpa using b9
  have f10 : (y == [42]) = false := by simpa using b10
  simp only [f1, f2, f3, f4, f5, f6, f7, f8, f9, f10, Bool.or_self, Bool.false_eq_true, if_false]
theorem kind_under (r : List UInt8) : kindW (95 :: r) = 0 := by
  have h1 : keyB (95 :: r) = false := by
    cases h : keyB (95 :: r) with
    | false => rfl
    | true =>
      unfold keyB keysL at h
      simp at h
  have h2 : isName (95 :: r) = false := by
    unfold isName
    have : okFrom (95 :: r) = false := by simp [okFrom, isLet]
    simp [this]
  have h3 : varB (95 :: r) = false := by
    have : upB 95 = false := by decide
    simp [varB, this]
  have h4 : pv (95 :: r) = none := by
    have hd : Lib.decFrom 0 (95 :: r) = none := by simp [Lib.decFrom, Lib.digitVal]
    simp [pv, pnum, hd, signed]
  simp [kindW, h1, h2, h3, h4]
end Go.Proofs.YtikohamfnnlhcaaGreatDoor

namespace Go.Proofs.YtikohamfnnlhcaaGreatDoor
open Go.RowKit Go.Deep Go.Shelf

theorem infoRt : (Tryz.prog.info? 178).map (fun i => (i.zero, i.size, i.bytes)) = some (some (.agg #[.int .i64 0, .string noText, .int .i64 0]), 3, 32) := by kernel_rfl
/-- the list, between two rounds at offset o. -/
def RfA (w : World) (s : ByteArray) (R : List Tk × Option Nat) (o : Nat) (pre : List Tk) (G : List Nat) (v : Value) (W : World) : Prop :=
  TArr 178 W v pre G ∧ (∀ g ∈ G, w.heap.size ≤ g) ∧ Below w.heap.size w W ∧ pre ++ (lexA kindW o (s.data.toList.drop o)).1 = R.1 ∧ (lexA kindW o (s.data.toList.drop o)).2 = R.2 ∧ pre.length ≤ o
def RfI (w : World) (s : ByteArray) (R : List Tk × Option Nat) (o : Nat) (v : Value) (W : World) : Prop := ∃ pre G, RfA w s R o pre G v W
theorem RfA.below {w : World} {s : ByteArray} {R : List Tk × Option Nat} {o : Nat} {pre : List Tk} {G : List Nat} {v : Value} {W W' : World} (h : RfA w s R o pre G v W) (hb : Below W.heap.size W W') : RfA w s R o pre G v W' := by
  obtain ⟨h1, h2, h3, h4⟩ := h
  exact ⟨h1.kept (Kept.of [] hb) (fun _ _ h => by cases h), h2, h3.trans (hb.mono h3.size), h4⟩
theorem RfA.skip {w : World} {s : ByteArray} {R : List Tk × Option Nat} {o : Nat} {pre : List Tk} {G : List Nat} {v : Value} {W : World} (h : RfA w s R o pre G v W) (k : Nat) (hk : skipN false (s.data.toList.drop o) = k + skipN false ((s.data.toList.drop o).drop k)) : RfA w s R (o + k) pre G v W := by
  obtain ⟨h1, h2, h3, h4, h5, h6⟩ := h
  rw [lexA_skip o _ k hk, List.drop_drop] at h4 h5
  exact ⟨h1, h2, h3, h4, h5, by omega⟩
theorem RfA.push {w : World} {s : ByteArray} {R : List Tk × Option Nat} {o q n g cap : Nat} {t : List UInt8} {pre : List Tk} {G : List Nat} {v : Value} {W w1 : World} {tmp : Obj} (h : RfA w s R o pre G v W)
    (h0 : skipN false (s.data.toList.drop o) = 0) (hn : s.data.toList.drop o ≠ []) (ht : tokOf kindW (s.data.toList.drop o) = some (q, t))
    (ho : w1.ownsRow 0 178 3 (.slice (some ⟨g, 0, none⟩) n cap) n (flatT pre ++ tkC (q, t, o))) (hg : (W.alloc tmp).grownBy w1 v.ownBlock) (hat : (Value.slice (some ⟨g, 0, none⟩) n cap).ownBlock = v.ownBlock ∨ (Value.slice (some ⟨g, 0, none⟩) n cap).ownBlock = some (W.alloc tmp).heap.size) :
    RfI w s R (o + t.length) (.slice (some ⟨g, 0, none⟩) n cap) w1 := by
  obtain ⟨h1, h2, h3, h4, h5, h6⟩ := h
  have hbl := h1.block
  have kw1 : Kept G W w1 := ((Kept.refl G W).alloc tmp).trans (Kept.grown hg hbl) (fun k hk => .inl hk)
  rw [lexA_tok (by rw [h0]; exact hn) (by rw [h0]; exact ht), h0] at h4 h5
  simp only [Nat.add_zero, List.drop_drop] at h4 h5
  have htl := (tok_text ht).1
  have hl0 : 0 < t.length := List.length_pos_iff.2 htl
  refine ⟨pre ++ [(q, t, o)], [g], TArr.of_owns (by rw [flatT_snoc]; exact ho), fun k hk => ?_, h3.trans (kw1.below h3.size h2), by rw [List.append_assoc]; exact h4, h5, by simp; omega⟩
  simp only [List.mem_singleton] at hk
  subst hk
  rcases hat with h | h
  · exact h2 _ (hbl _ h.symm)
  · injection h with h
    have := h3.size
    simp at h
    omega
/-- what List answers, the document's. -/
def RlPost (w : World) (R : List Tk × Option Nat) (e : Ending) (w' : World) : Prop :=
  ∃ A c, e = .returned (.tuple #[.slice A R.1.length c, .int .i64 (match R.2 with | none => -1 | some p => (p : Int))]) ∧ TRow w' A R.1 ∧ Below w.heap.size w w'
theorem RfA.fin {w : World} {s : ByteArray} {R : List Tk × Option Nat} {o : Nat} {pre : List Tk} {G : List Nat} {v : Value} {W : World} (h : RfA w s R o pre G v W) (he : s.data.toList.drop o = []) :
    RlPost w R (.returned (.tuple #[v, .int .i64 (-1)])) W := by
  obtain ⟨h1, h2, h3, h4, h5, h6⟩ := h
  rw [he, lexA_end rfl] at h4 h5
  simp only [List.append_nil] at h4 h5
  obtain ⟨A, c, rfl, _, hr⟩ := h1.row
  rw [h4] at hr
  exact ⟨A, c, by rw [← h5, h4], hr, h3⟩
theorem RfA.bad {w : World} {s : ByteArray} {R : List Tk × Option Nat} {o : Nat} {pre : List Tk} {G : List Nat} {v : Value} {W : World} (h : RfA w s R o pre G v W)
    (h0 : skipN false (s.data.toList.drop o) = 0) (hn : s.data.toList.drop o ≠ []) (ht : tokOf kindW (s.data.toList.drop o) = none) :
    RlPost w R (.returned (.tuple #[v, .int .i64 (o : Int)])) W := by
  obtain ⟨h1, h2, h3, h4, h5, h6⟩ := h
  rw [lexA_bad (by rw [h0]; exact hn) (by rw [h0]; exact ht), h0] at h4 h5
  simp only [List.append_nil, Nat.add_zero] at h4 h5
  obtain ⟨A, c, rfl, _, hr⟩ := h1.row
  rw [h4] at hr
  exact ⟨A, c, by rw [← h5, h4], hr, h3⟩
theorem tok_sign {c : UInt8} {r : List UInt8} (h : wb c = false ∨ c = 95) : tokOf kindW (c :: r) = (signOf (c :: r)).map fun p => (5, p) := by
  rcases h with h | rfl
  · unfold tokOf
    rw [if_pos (by simp [h])]
  · have e1 : (95 :: r : List UInt8).takeWhile wb = 95 :: r.takeWhile wb := by
      rw [List.takeWhile_cons, if_pos (by decide)]
    have e2 : signOf (95 :: r) = none := by
      rw [signOf_eq]
      rw [if_neg, if_neg]
      · simp [inB, oneL]
      · cases r <;> simp [inB, twoL]
    unfold tokOf
    rw [e1, if_neg (by simp), if_pos (kind_under _), e2]
    rfl
theorem tok_word {l : List UInt8} (h : l.takeWhile wb ≠ []) : tokOf kindW l = if kindW (l.takeWhile wb) = 0 then none else some (kindW (l.takeWhile wb), l.takeWhile wb) := by
  unfold tokOf
  rw [if_neg h]
theorem len_two {l : List UInt8} (h : inB twoL (l.take 2) = true) : 2 ≤ l.length := by
  match l with
  | [] => simp [inB, twoL] at h
  | [c] => simp [inB, twoL] at h
  | _ :: _ :: r => simp
theorem len_one {l : List UInt8} (h : inB oneL (l.take 1) = true) : (l.take 1).length = 1 := by
  match l with
  | [] => simp [inB, oneL] at h
  | c :: r => simp
end Go.Proofs.YtikohamfnnlhcaaGreatDoor

namespace Go.Proofs.YtikohamfnnlhcaaGreatDoor
open Go.RowKit Go.Deep Go.Shelf

theorem ref_part (s : ByteArray) (e a : Nat) : (s.extract e a).data.toList = (s.data.toList.drop e).take (a - e) := by
  simp
theorem line_get : ∀ (l : List UInt8) (j : Nat) (hj : j < l.length), (j < lineN l → lfB l[j] = false) ∧ (j = lineN l → lfB l[j] = true)
  | c :: r, j, hj => by
    by_cases h : lfB c = true
    · have e : lineN (c :: r) = 0 := by simp [lineN, h]
      rw [e]
      refine ⟨fun h0 => absurd h0 (by omega), ?_⟩
      rintro rfl
      exact h
    · have e : lineN (c :: r) = lineN r + 1 := by simp [lineN, h]
      rw [e]
      match j with
      | 0 => exact ⟨fun _ => by simpa using h, fun h0 => by omega⟩
      | j + 1 =>
        have ih := line_get r j (by simpa using hj)
        exact ⟨fun h0 => ih.1 (by omega), fun h0 => ih.2 (by omega)⟩
theorem line_no {s : ByteArray} {o j : Nat} (hj : j < lineN (s.data.toList.drop o)) (h : o + j < s.size) : ((s[o + j].toNat : Int) != 10) = true := by
  have hl : j < (s.data.toList.drop o).length := by simp; omega
  have h1 := (line_get _ j hl).1 hj
  rw [List.getElem_drop] at h1
  have h2 : lfB s[o + j] = false := h1
  simpa [lfB, bne] using h2
theorem line_yes {s : ByteArray} {o : Nat} (h : o + lineN (s.data.toList.drop o) < s.size) : ((s[o + lineN (s.data.toList.drop o)].toNat : Int) != 10) = false := by
  have hl : lineN (s.data.toList.drop o) < (s.data.toList.drop o).length := by simp; omega
  have h1 := (line_get _ _ hl).2 rfl
  rw [List.getElem_drop] at h1
  have h2 : lfB s[o + lineN (s.data.toList.drop o)] = true := h1
  simpa [lfB, bne] using h2

set_option maxRecDepth 100000 in
set_option maxHeartbeats 4000000 in
theorem refList_any (s : ByteArray) (w : World) (hs : s.size ≤ 1000000) :
    Calls Tryz.prog 127 #[.string s] w fun e w' => RlPost w (lexA kindW 0 s.data.toList) e w' := by
  obtain ⟨i0, hi0, hz0, hzs, hzb⟩ := info_parts infoRt
  have h00 : RfA w s (lexA kindW 0 s.data.toList) 0 [] [] (.slice none 0 0) w := ⟨.inl ⟨rfl, rfl, rfl⟩, (fun _ h => by cases h), Below.refl _ _, rfl, rfl, Nat.le_refl _⟩
  have H00 := Lib.hid h00
  generalize lexA kindW 0 s.data.toList = R at H00 ⊢
  clear h00
  go_enter Tryz.func127, Tryz.ntmps127
  go_wp2_with fail
  go_loopw [4, 5] (fun v i wr => ∃ (o : Nat) (V : Value), o ≤ s.size ∧ i = .int .i64 o ∧ V = v ∧ Hid (RfI w s R o V wr)) (fun _ i _ => s.size - (intOf i).toNat)
  case atStart => exact ⟨0, _, Nat.zero_le _, rfl, rfl, ⟨_, _, H00.out⟩⟩
  case round =>
    obtain ⟨o, V, ho, rfl, rfl, HI⟩ := hrel
    obtain ⟨pre, G, hA⟩ := HI.out
    have HA := Lib.hid hA
    clear hA HI
    by_cases hlt : o < s.size
    · have hd := drop_at s hlt
      have hdn : s.data.toList.drop o ≠ [] := by rw [hd]; simp
      rcases bl_cases s[o] with ⟨a1, b⟩ | ⟨a1, a2, b⟩ | ⟨a1, a2, a3, b⟩ | ⟨a1, a2, a3, a4, b⟩ | ⟨a1, a2, a3, a4, a5, b, b'⟩ | ⟨a1, a2, a3, a4, a5, b, b'⟩
      · skip
        have HQ : Hid (RfI w s R (o + 1) V wr) := ⟨_, _, HA.out.skip 1 (by rw [hd, skip_bl b]; simp only [List.drop_succ_cons, List.drop_zero]; omega)⟩
        clear hd b HA
        go_wp2
        go_roundw
        case rel => exact ⟨o + 1, V, by omega, by go_num, rfl, HQ⟩
        case measure => simp [intOf]; omega
      · skip
        have HQ : Hid (RfI w s R (o + 1) V wr) := ⟨_, _, HA.out.skip 1 (by rw [hd, skip_bl b]; simp only [List.drop_succ_cons, List.drop_zero]; omega)⟩
        clear hd b HA
        go_wp2
        go_roundw
        case rel => exact ⟨o + 1, V, by omega, by go_num, rfl, HQ⟩
        case measure => simp [intOf]; omega
      · skip
        have HQ : Hid (RfI w s R (o + 1) V wr) := ⟨_, _, HA.out.skip 1 (by rw [hd, skip_bl b]; simp only [List.drop_succ_cons, List.drop_zero]; omega)⟩
        clear hd b HA
        go_wp2
        go_roundw
        case rel => exact ⟨o + 1, V, by omega, by go_num, rfl, HQ⟩
        case measure => simp [intOf]; omega
      · skip
        have HQ : Hid (RfI w s R (o + 1) V wr) := ⟨_, _, HA.out.skip 1 (by rw [hd, skip_bl b]; simp only [List.drop_succ_cons, List.drop_zero]; omega)⟩
        clear hd b HA
        go_wp2
        go_roundw
        case rel => exact ⟨o + 1, V, by omega, by go_num, rfl, HQ⟩
        case measure => simp [intOf]; omega
      · have HL : Hid (RfI w s R (o + lineN (s.data.toList.drop o)) V wr) := ⟨_, _, HA.out.skip _ (by rw [hd]; exact skip_per b b')⟩
        have hll := line_le (s.data.toList.drop o)
        simp only [List.length_drop, show s.data.toList.length = s.size by simp] at hll
        have HLn : Hid (∀ j, j < lineN (s.data.toList.drop o) → (h : o + j < s.size) → ((s[o + j].toNat : Int) != 10) = true) := fun j hj h => line_no hj h
        have HLe : Hid ((h : o + lineN (s.data.toList.drop o) < s.size) → ((s[o + lineN (s.data.toList.drop o)].toNat : Int) != 10) = false) := fun h => line_yes h
        have hl0 : 0 < lineN (s.data.toList.drop o) := by
          have hlf : lfB s[o] = false := by
            cases hl : lfB s[o] with
            | false => rfl
            | true => rw [lf_bl hl] at b; cases b
          rw [hd]
          simp [lineN, hlf]
        generalize lineN (s.data.toList.drop o) = n at HL hll HLn HLe hl0
        clear hd hdn b b' HA
        go_wp2_with fail
        go_loop [5] (fun i => ∃ j : Nat, j ≤ n ∧ i = .int .i64 ((o + j : Nat) : Int)) (fun i => s.size - (intOf i).toNat)
        case atStart => exact ⟨0, Nat.zero_le _, rfl⟩
        case round =>
          obtain ⟨j, hj, rfl⟩ := hrel
          by_cases hjs : o + j < s.size
          · by_cases hjn : j < n
            · have h1 := HLn.out j hjn hjs
              go_wp2
              go_round
              case rel => exact ⟨j + 1, by omega, by go_num⟩
              case measure => simp [intOf]; omega
            · obtain rfl : j = n := by omega
              have h1 := HLe.out hjs
              go_wp2
              go_roundw
              case rel => exact ⟨o + j, V, by omega, rfl, rfl, HL⟩
              case measure => simp [intOf]; omega
          · obtain rfl : j = n := by omega
            go_wp2
            go_roundw
            case rel => exact ⟨o + j, V, by omega, rfl, rfl, HL⟩
            case measure => simp [intOf]; omega
      · have hs0 : skipN false (s.data.toList.drop o) = 0 := by rw [hd]; exact skip_no b b'
        have HS0 := Lib.hid hs0
        have HDn := Lib.hid hdn
        obtain ⟨A0, c0, rfl, _⟩ := HA.out.1.val
        have hpl : pre.length ≤ 1000000 := by have := HA.out.2.2.2.2.2; omega
        have hb1 : pre.length + 1 ≤ maxLen := by unfold maxLen; omega
        have hb2 : (pre.length + 1) * 32 ≤ 140737488355328 := by omega
        clear hs0 b b'
        by_cases hw : wb s[o] = true ∧ ((s[o].toNat : Int) != 95) = true
        · -- a word
          obtain ⟨hw1, hw2⟩ := hw
          have HI1 := Lib.hid (fun W => inside_is s[o] true hw1 W)
          have hwn : (s.data.toList.drop o).takeWhile wb ≠ [] := by rw [hd, List.takeWhile_cons, if_pos hw1]; simp
          have hn0 : 0 < wordN (s.data.toList.drop o) := List.length_pos_iff.2 hwn
          have hle := wordN_le (s.data.toList.drop o)
          simp only [List.length_drop, show s.data.toList.length = s.size by simp] at hle
          have HT : Hid (∀ j, j < wordN (s.data.toList.drop o) → (h : o + j < s.size) → wb s[o + j] = true) := fun j hj h => by
            have hl : j < (s.data.toList.drop o).length := by simp; omega
            have h1 := wordN_lt hj hl
            rw [List.getElem_drop] at h1
            exact h1
          have HF : Hid ((h : o + wordN (s.data.toList.drop o) < s.size) → wb s[o + wordN (s.data.toList.drop o)] = false) := fun h => by
            have hl : wordN (s.data.toList.drop o) < (s.data.toList.drop o).length := by simp; omega
            have h1 := wordN_at hl
            rw [List.getElem_drop] at h1
            exact h1
          have hE : s.extract o (o + wordN (s.data.toList.drop o)) = bts ((s.data.toList.drop o).takeWhile wb) := by
            rw [← bts_of (s.extract o _), ref_part, Nat.add_sub_cancel_left, wordN_take]
          have htw := tok_word hwn
          have hwlen : ((s.data.toList.drop o).takeWhile wb).length = wordN (s.data.toList.drop o) := rfl
          have HWd := Lib.hid (fun W => word_any (bts ((s.data.toList.drop o).takeWhile wb)) W (by rw [bts_size, hwlen]; unfold maxLen; omega) (by rw [bts_size, hwlen]; omega))
          simp only at HWd
          generalize hq : kindW ((s.data.toList.drop o).takeWhile wb) = q at htw HWd
          have HLen := Lib.hid hwlen
          have HTw := Lib.hid htw
          generalize wordN (s.data.toList.drop o) = n at hn0 hle HT HF hE HLen
          obtain ⟨T, hT⟩ : ∃ T, bts ((s.data.toList.drop o).takeWhile wb) = T := ⟨_, rfl⟩
          rw [hT] at hE HWd
          have HTt := Lib.hid hT
          have HE := Lib.hid hE
          clear hd hdn hwn hwlen htw hq hT hE hw1
          go_wp2_with fail
          refine (HI1.out _).mono ?_
          rintro e w' ⟨rfl, rfl⟩
          go_wp2_with fail
          go_loop [7] (fun i => ∃ j : Nat, j ≤ n ∧ i = .int .i64 ((o + j : Nat) : Int)) (fun i => s.size - (intOf i).toNat)
          case atStart => exact ⟨0, Nat.zero_le _, rfl⟩
          case round =>
            obtain ⟨j, hj, rfl⟩ := hrel
            by_cases hjn : j < n
            · have hjs : o + j < s.size := by omega
              have H1 := Lib.hid (HT.out j hjn hjs)
              go_wp2_with fail
              refine (inside_is _ _ H1.out _).mono ?_
              rintro e w' ⟨rfl, rfl⟩
              go_wp2
              go_round
              case rel => exact ⟨j + 1, by omega, by go_num⟩
              case measure => simp [intOf]; omega
            · obtain rfl : j = n := by omega
              have hb3 : o ≤ o + j := by omega
              have hE := HE.out
              by_cases hjs : o + j < s.size
              · have H1 := Lib.hid (HF.out hjs)
                go_wp2_with fail
                refine (inside_is _ _ H1.out _).mono ?_
                rintro e w' ⟨rfl, rfl⟩
                go_wp2_with fail
                refine (HWd.out _).mono ?_
                rintro e w2 ⟨rfl, b2⟩
                have HAX := Lib.hid (HA.out.below b2)
                clear b2 HA HWd HT HF
                by_cases hq : q = 0
                · subst hq
                  have HQ := Lib.hid (HAX.out.bad HS0.out HDn.out (by rw [HTw.out]; simp))
                  clear hE
                  go_wp2
                  go_ret2
                  exact HQ.out
                · have hqz : ((q : Int) == 0) = false := by simp only [beq_eq_false_iff_ne]; omega
                  have HTk : Hid (tokOf kindW (s.data.toList.drop o) = some (q, (s.data.toList.drop o).takeWhile wb)) := by show _ = _; rw [HTw.out, if_neg hq]
                  have HOw := Lib.hid ((HAX.out.1.kept ((Kept.refl [] w2).alloc (.cells #[.int .i64 (q : Int), .string T, .int .i64 (o : Int)] 178)) (fun _ _ h => by cases h)).owns)
                  have HNw : Hid (∀ k u, (tkC (q, (s.data.toList.drop o).takeWhile wb, o))[k]? = some u → (w2.alloc (.cells #[.int .i64 (q : Int), .string T, .int .i64 (o : Int)] 178)).cell? ((⟨w2.heap.size, 0, none⟩ : Addr).add k) = some u) := fun k u hk => by
                    have hv : Own (w2.alloc (.cells #[.int .i64 (q : Int), .string T, .int .i64 (o : Int)] 178)) w2.heap.size 178 (tkC (q, (s.data.toList.drop o).takeWhile wb, o)) := by
                      rw [show tkC (q, (s.data.toList.drop o).takeWhile wb, o) = [.int .i64 (q : Int), .string T, .int .i64 (o : Int)] by show [_, Value.string (bts _), _] = _; rw [HTt.out]]
                      exact heap_alloc_new w2 _
                    rw [Addr.add_lit, Nat.zero_add, hv.cell]
                    exact hk
                  have hone : ∀ u ∈ tkC (q, (s.data.toList.drop o).takeWhile wb, o), u.oneCell' = true := by simp [Value.oneCell']
                  have HLn := Lib.hid HLen.out
                  clear hq
                  go_wp2_with (at_builtin; refine wpList_append_own_at _ rfl _ _ 174 rfl 0 178 i0 _ 3 32 Tryz.underlying174 hi0 hz0 hzs hzb rfl (by decide) (.slice A0 pre.length c0) pre.length (flatT pre) rfl HOw.out ⟨w2.heap.size, 0, none⟩ 1 1 (tkC (q, (s.data.toList.drop o).takeWhile wb, o)) rfl rfl HNw.out hone hb1 hb2 (Nat.zero_le _) ?_; intro v' w3 ho hg _ hat; obtain ⟨g1, cap1, rfl⟩ := owns_val3 ho; have hQ := HAX.out.push HS0.out HDn.out HTk.out ho hg hat; rw [HLen.out] at hQ; have HQ := Lib.hid hQ; clear ho hg hat hQ)
                  go_roundw
                  case rel => exact ⟨o + j, _, by omega, rfl, rfl, HQ⟩
                  case measure => simp [intOf]; omega
              · go_wp2_with fail
                refine (HWd.out _).mono ?_
                rintro e w2 ⟨rfl, b2⟩
                have HAX := Lib.hid (HA.out.below b2)
                clear b2 HA HWd HT HF
                by_cases hq : q = 0
                · subst hq
                  have HQ := Lib.hid (HAX.out.bad HS0.out HDn.out (by rw [HTw.out]; simp))
                  clear hE
                  go_wp2
                  go_ret2
                  exact HQ.out
                · have hqz : ((q : Int) == 0) = false := by simp only [beq_eq_false_iff_ne]; omega
                  have HTk : Hid (tokOf kindW (s.data.toList.drop o) = some (q, (s.data.toList.drop o).takeWhile wb)) := by show _ = _; rw [HTw.out, if_neg hq]
                  have HOw := Lib.hid ((HAX.out.1.kept ((Kept.refl [] w2).alloc (.cells #[.int .i64 (q : Int), .string T, .int .i64 (o : Int)] 178)) (fun _ _ h => by cases h)).owns)
                  have HNw : Hid (∀ k u, (tkC (q, (s.data.toList.drop o).takeWhile wb, o))[k]? = some u → (w2.alloc (.cells #[.int .i64 (q : Int), .string T, .int .i64 (o : Int)] 178)).cell? ((⟨w2.heap.size, 0, none⟩ : Addr).add k) = some u) := fun k u hk => by
                    have hv : Own (w2.alloc (.cells #[.int .i64 (q : Int), .string T, .int .i64 (o : Int)] 178)) w2.heap.size 178 (tkC (q, (s.data.toList.drop o).takeWhile wb, o)) := by
                      rw [show tkC (q, (s.data.toList.drop o).takeWhile wb, o) = [.int .i64 (q : Int), .string T, .int .i64 (o : Int)] by show [_, Value.string (bts _), _] = _; rw [HTt.out]]
                      exact heap_alloc_new w2 _
                    rw [Addr.add_lit, Nat.zero_add, hv.cell]
                    exact hk
                  have hone : ∀ u ∈ tkC (q, (s.data.toList.drop o).takeWhile wb, o), u.oneCell' = true := by simp [Value.oneCell']
                  have HLn := Lib.hid HLen.out
                  clear hq
                  go_wp2_with (at_builtin; refine wpList_append_own_at _ rfl _ _ 174 rfl 0 178 i0 _ 3 32 Tryz.underlying174 hi0 hz0 hzs hzb rfl (by decide) (.slice A0 pre.length c0) pre.length (flatT pre) rfl HOw.out ⟨w2.heap.size, 0, none⟩ 1 1 (tkC (q, (s.data.toList.drop o).takeWhile wb, o)) rfl rfl HNw.out hone hb1 hb2 (Nat.zero_le _) ?_; intro v' w3 ho hg _ hat; obtain ⟨g1, cap1, rfl⟩ := owns_val3 ho; have hQ := HAX.out.push HS0.out HDn.out HTk.out ho hg hat; rw [HLen.out] at hQ; have HQ := Lib.hid hQ; clear ho hg hat hQ)
                  go_roundw
                  case rel => exact ⟨o + j, _, by omega, rfl, rfl, HQ⟩
                  case measure => simp [intOf]; omega
        · -- a sign, or no token
          have hc : wb s[o] = false ∨ s[o] = 95 := by
            cases hwb : wb s[o] with
            | false => exact .inl rfl
            | true =>
              refine .inr ?_
              have h2 : ¬ ((s[o].toNat : Int) != 95) = true := fun h => hw ⟨hwb, h⟩
              have h3 : (s[o].toNat : Int) = 95 := by simpa [bne] using h2
              apply UInt8.toNat_inj.1
              simpa using (by omega : s[o].toNat = 95)
          have htk : tokOf kindW (s.data.toList.drop o) = (signOf (s.data.toList.drop o)).map fun p => (5, p) := by rw [hd]; exact tok_sign hc
          rw [signOf_eq] at htk
          have hin : (wb s[o] && ((s[o].toNat : Int) != 95)) = false := by
            cases hwb : wb s[o] with
            | false => rfl
            | true =>
              cases h2 : ((s[o].toNat : Int) != 95) with
              | false => rfl
              | true => exact absurd ⟨hwb, h2⟩ hw
          have HI1 : Hid (∀ W, Calls Tryz.prog 143 #[.int .u8 s[o].toNat] W fun e w' => e = .returned (.bool (wb s[o])) ∧ W = w') := fun W => inside_any s[o] W
          have HTk0 := Lib.hid htk
          clear hd hdn htk hw hc
          cases hwb : wb s[o] with
          | false =>
            rw [hwb] at HI1 hin
            have h95 : True := trivial
            clear hin hwb
            have hl1 : (s.data.toList.drop o).length = s.size - o := by simp
            by_cases h2 : o + 2 ≤ s.size
            · have h2i : (o : Int) + 2 ≤ (s.size : Int) := by omega
              have hE2 : s.extract o (o + 2) = bts ((s.data.toList.drop o).take 2) := by rw [← bts_of (s.extract o _), ref_part, Nat.add_sub_cancel_left]
              have hO4 : Own (wr.alloc (.cells #[.string (bts [58,45]), .string (bts [33,61]), .string (bts [60,61]), .string (bts [62,61])] 9)) wr.heap.size 9 (twoL.map fun l => .string (bts l)) := heap_alloc_new wr _
              have hB4 : Below wr.heap.size wr (wr.alloc (.cells #[.string (bts [58,45]), .string (bts [33,61]), .string (bts [60,61]), .string (bts [62,61])] 9)) := (Below.refl _ _).alloc (Nat.le_refl _) _
              obtain ⟨w4, hw4⟩ : ∃ w4, w4 = wr.alloc (.cells #[.string (bts [58,45]), .string (bts [33,61]), .string (bts [60,61]), .string (bts [62,61])] 9) := ⟨_, rfl⟩
              rw [← hw4] at hO4 hB4
              have HI2 := Lib.hid (in_any wr.heap.size 0 4 twoL (bts ((s.data.toList.drop o).take 2)) w4 (by decide) (fun i x hx => by rw [Nat.zero_add, hO4.cell, List.getElem?_map, hx]; rfl))
              simp only at HI2
              have HA4 := Lib.hid (HA.out.below hB4)
              have HW4 := Lib.hid hw4
              obtain ⟨T2, hT2⟩ : ∃ T, bts ((s.data.toList.drop o).take 2) = T := ⟨_, rfl⟩
              rw [hT2] at HI2 hE2
              have HTt2 := Lib.hid hT2
              clear hw4 hO4 hB4 hT2 HA
              cases hi2 : inB twoL ((s.data.toList.drop o).take 2) with
              | true =>
                rw [hi2] at HI2
                have HTk : Hid (tokOf kindW (s.data.toList.drop o) = some (5, (s.data.toList.drop o).take 2)) := by show _ = _; rw [HTk0.out, if_pos hi2]; rfl
                have HLn : Hid (((s.data.toList.drop o).take 2).length = 2) := by show _ = _; rw [List.length_take, hl1]; omega
                clear hi2 hl1
                go_wp2_with fail
                refine (HI1.out _).mono ?_
                rintro e w' ⟨rfl, rfl⟩
                go_wp2_with fail
                rw [← HW4.out]
                refine HI2.out.mono ?_
                rintro e w' ⟨rfl, rfl⟩
                have HOw := Lib.hid ((HA4.out.1.kept ((Kept.refl [] w4).alloc (.cells #[.int .i64 5, .string T2, .int .i64 (o : Int)] 178)) (fun _ _ h => by cases h)).owns)
                have HNw : Hid (∀ k u, (tkC (5, ((s.data.toList.drop o).take 2), o))[k]? = some u → (w4.alloc (.cells #[.int .i64 5, .string T2, .int .i64 (o : Int)] 178)).cell? ((⟨w4.heap.size, 0, none⟩ : Addr).add k) = some u) := fun k u hk => by
                  have hv : Own (w4.alloc (.cells #[.int .i64 5, .string T2, .int .i64 (o : Int)] 178)) w4.heap.size 178 (tkC (5, ((s.data.toList.drop o).take 2), o)) := by
                    rw [show tkC (5, ((s.data.toList.drop o).take 2), o) = [.int .i64 5, .string T2, .int .i64 (o : Int)] by show [_, Value.string (bts _), _] = _; rw [HTt2.out]; rfl]
                    exact heap_alloc_new w4 _
                  rw [Addr.add_lit, Nat.zero_add, hv.cell]
                  exact hk
                have hone : ∀ u ∈ tkC (5, ((s.data.toList.drop o).take 2), o), u.oneCell' = true := by simp [Value.oneCell']
                go_wp2_with (at_builtin; refine wpList_append_own_at _ rfl _ _ 174 rfl 0 178 i0 _ 3 32 Tryz.underlying174 hi0 hz0 hzs hzb rfl (by decide) (.slice A0 pre.length c0) pre.length (flatT pre) rfl HOw.out ⟨w4.heap.size, 0, none⟩ 1 1 (tkC (5, ((s.data.toList.drop o).take 2), o)) rfl rfl HNw.out hone hb1 hb2 (Nat.zero_le _) ?_; intro v' w3 ho hg _ hat; obtain ⟨g1, cap1, rfl⟩ := owns_val3 ho; have hQ := HA4.out.push HS0.out HDn.out HTk.out ho hg hat; rw [HLn.out] at hQ; have HQ := Lib.hid hQ; clear ho hg hat hQ)
                go_roundw
                case rel => exact ⟨o + 2, _, by omega, by go_num, rfl, HQ⟩
                case measure => simp [intOf]; omega
              | false =>
                rw [hi2] at HI2
                have HTk1 : Hid (tokOf kindW (s.data.toList.drop o) = (if inB oneL ((s.data.toList.drop o).take 1) = true then some ((s.data.toList.drop o).take 1) else none).map fun p => (5, p)) := by show _ = _; rw [HTk0.out, if_neg (by simp [hi2])]
                clear hi2 hl1
                go_wp2_with fail
                refine (HI1.out _).mono ?_
                rintro e w' ⟨rfl, rfl⟩
                go_wp2_with fail
                rw [← HW4.out]
                refine HI2.out.mono ?_
                rintro e w' ⟨rfl, rfl⟩
                clear hE2 HW4 HI2
                have hE1 : s.extract o (o + 1) = bts ((s.data.toList.drop o).take 1) := by rw [← bts_of (s.extract o _), ref_part, Nat.add_sub_cancel_left]
                have hO10 : Own (w4.alloc (.cells #[.string (bts [40]), .string (bts [41]), .string (bts [44]), .string (bts [46]), .string (bts [61]), .string (bts [60]), .string (bts [62]), .string (bts [43]), .string (bts [45]), .string (bts [42])] 9)) w4.heap.size 9 (oneL.map fun l => .string (bts l)) := heap_alloc_new w4 _
                have hB10 : Below w4.heap.size w4 (w4.alloc (.cells #[.string (bts [40]), .string (bts [41]), .string (bts [44]), .string (bts [46]), .string (bts [61]), .string (bts [60]), .string (bts [62]), .string (bts [43]), .string (bts [45]), .string (bts [42])] 9)) := (Below.refl _ _).alloc (Nat.le_refl _) _
                obtain ⟨w10, hw10⟩ : ∃ w10, w10 = w4.alloc (.cells #[.string (bts [40]), .string (bts [41]), .string (bts [44]), .string (bts [46]), .string (bts [61]), .string (bts [60]), .string (bts [62]), .string (bts [43]), .string (bts [45]), .string (bts [42])] 9) := ⟨_, rfl⟩
                rw [← hw10] at hO10 hB10
                have HI3 := Lib.hid (in_any w4.heap.size 0 10 oneL (bts ((s.data.toList.drop o).take 1)) w10 (by decide) (fun i x hx => by rw [Nat.zero_add, hO10.cell, List.getElem?_map, hx]; rfl))
                simp only at HI3
                have HA10 := Lib.hid (HA4.out.below hB10)
                have HW10 := Lib.hid hw10
                obtain ⟨T1, hT1⟩ : ∃ T, bts ((s.data.toList.drop o).take 1) = T := ⟨_, rfl⟩
                rw [hT1] at HI3 hE1
                have HTt1 := Lib.hid hT1
                clear hw10 hO10 hB10 hT1 HA4
                cases hi1 : inB oneL ((s.data.toList.drop o).take 1) with
                | true =>
                  rw [hi1] at HI3
                  have HTk : Hid (tokOf kindW (s.data.toList.drop o) = some (5, (s.data.toList.drop o).take 1)) := by show _ = _; rw [HTk1.out, if_pos hi1]; rfl
                  have HLn : Hid (((s.data.toList.drop o).take 1).length = 1) := len_one hi1
                  clear hi1
                  go_wp2_with fail
                  rw [← HW10.out]
                  refine HI3.out.mono ?_
                  rintro e w' ⟨rfl, rfl⟩
                  have HOw := Lib.hid ((HA10.out.1.kept ((Kept.refl [] w10).alloc (.cells #[.int .i64 5, .string T1, .int .i64 (o : Int)] 178)) (fun _ _ h => by cases h)).owns)
                  have HNw : Hid (∀ k u, (tkC (5, ((s.data.toList.drop o).take 1), o))[k]? = some u → (w10.alloc (.cells #[.int .i64 5, .string T1, .int .i64 (o : Int)] 178)).cell? ((⟨w10.heap.size, 0, none⟩ : Addr).add k) = some u) := fun k u hk => by
                    have hv : Own (w10.alloc (.cells #[.int .i64 5, .string T1, .int .i64 (o : Int)] 178)) w10.heap.size 178 (tkC (5, ((s.data.toList.drop o).take 1), o)) := by
                      rw [show tkC (5, ((s.data.toList.drop o).take 1), o) = [.int .i64 5, .string T1, .int .i64 (o : Int)] by show [_, Value.string (bts _), _] = _; rw [HTt1.out]; rfl]
                      exact heap_alloc_new w10 _
                    rw [Addr.add_lit, Nat.zero_add, hv.cell]
                    exact hk
                  have hone : ∀ u ∈ tkC (5, ((s.data.toList.drop o).take 1), o), u.oneCell' = true := by simp [Value.oneCell']
                  go_wp2_with (at_builtin; refine wpList_append_own_at _ rfl _ _ 174 rfl 0 178 i0 _ 3 32 Tryz.underlying174 hi0 hz0 hzs hzb rfl (by decide) (.slice A0 pre.length c0) pre.length (flatT pre) rfl HOw.out ⟨w10.heap.size, 0, none⟩ 1 1 (tkC (5, ((s.data.toList.drop o).take 1), o)) rfl rfl HNw.out hone hb1 hb2 (Nat.zero_le _) ?_; intro v' w3 ho hg _ hat; obtain ⟨g1, cap1, rfl⟩ := owns_val3 ho; have hQ := HA10.out.push HS0.out HDn.out HTk.out ho hg hat; rw [HLn.out] at hQ; have HQ := Lib.hid hQ; clear ho hg hat hQ)
                  go_roundw
                  case rel => exact ⟨o + 1, _, by omega, by go_num, rfl, HQ⟩
                  case measure => simp [intOf]; omega
                | false =>
                  rw [hi1] at HI3
                  have HQ := Lib.hid (HA10.out.bad HS0.out HDn.out (by rw [HTk1.out, if_neg (by simp [hi1])]; rfl))
                  clear hi1
                  go_wp2_with fail
                  rw [← HW10.out]
                  refine HI3.out.mono ?_
                  rintro e w' ⟨rfl, rfl⟩
                  clear hE1
                  go_wp2
                  go_ret2
                  exact HQ.out
            · have h2i : (s.size : Int) < (o : Int) + 2 := by omega
              have hi2 : inB twoL ((s.data.toList.drop o).take 2) = false := by
                cases h : inB twoL ((s.data.toList.drop o).take 2) with
                | false => rfl
                | true => have := len_two h; omega
              have HTk1 : Hid (tokOf kindW (s.data.toList.drop o) = (if inB oneL ((s.data.toList.drop o).take 1) = true then some ((s.data.toList.drop o).take 1) else none).map fun p => (5, p)) := by show _ = _; rw [HTk0.out, if_neg (by simp [hi2])]
              obtain ⟨w4, hw4⟩ : ∃ w4, w4 = wr := ⟨_, rfl⟩
              have HA4 : Hid (RfA w s R o pre G (.slice A0 pre.length c0) w4) := by rw [hw4]; exact HA.out
              rw [← hw4]
              clear hi2 hl1 hw4 HA
              go_wp2_with fail
              refine (HI1.out _).mono ?_
              rintro e w' ⟨rfl, rfl⟩
              have hE1 : s.extract o (o + 1) = bts ((s.data.toList.drop o).take 1) := by rw [← bts_of (s.extract o _), ref_part, Nat.add_sub_cancel_left]
              have hO10 : Own (w4.alloc (.cells #[.string (bts [40]), .string (bts [41]), .string (bts [44]), .string (bts [46]), .string (bts [61]), .string (bts [60]), .string (bts [62]), .string (bts [43]), .string (bts [45]), .string (bts [42])] 9)) w4.heap.size 9 (oneL.map fun l => .string (bts l)) := heap_alloc_new w4 _
              have hB10 : Below w4.heap.size w4 (w4.alloc (.cells #[.string (bts [40]), .string (bts [41]), .string (bts [44]), .string (bts [46]), .string (bts [61]), .string (bts [60]), .string (bts [62]), .string (bts [43]), .string (bts [45]), .string (bts [42])] 9)) := (Below.refl _ _).alloc (Nat.le_refl _) _
              obtain ⟨w10, hw10⟩ : ∃ w10, w10 = w4.alloc (.cells #[.string (bts [40]), .string (bts [41]), .string (bts [44]), .string (bts [46]), .string (bts [61]), .string (bts [60]), .string (bts [62]), .string (bts [43]), .string (bts [45]), .string (bts [42])] 9) := ⟨_, rfl⟩
              rw [← hw10] at hO10 hB10
              have HI3 := Lib.hid (in_any w4.heap.size 0 10 oneL (bts ((s.data.toList.drop o).take 1)) w10 (by decide) (fun i x hx => by rw [Nat.zero_add, hO10.cell, List.getElem?_map, hx]; rfl))
              simp only at HI3
              have HA10 := Lib.hid (HA4.out.below hB10)
              have HW10 := Lib.hid hw10
              obtain ⟨T1, hT1⟩ : ∃ T, bts ((s.data.toList.drop o).take 1) = T := ⟨_, rfl⟩
              rw [hT1] at HI3 hE1
              have HTt1 := Lib.hid hT1
              clear hw10 hO10 hB10 hT1 HA4
              cases hi1 : inB oneL ((s.data.toList.drop o).take 1) with
              | true =>
                rw [hi1] at HI3
                have HTk : Hid (tokOf kindW (s.data.toList.drop o) = some (5, (s.data.toList.drop o).take 1)) := by show _ = _; rw [HTk1.out, if_pos hi1]; rfl
                have HLn : Hid (((s.data.toList.drop o).take 1).length = 1) := len_one hi1
                clear hi1
                go_wp2_with fail
                rw [← HW10.out]
                refine HI3.out.mono ?_
                rintro e w' ⟨rfl, rfl⟩
                have HOw := Lib.hid ((HA10.out.1.kept ((Kept.refl [] w10).alloc (.cells #[.int .i64 5, .string T1, .int .i64 (o : Int)] 178)) (fun _ _ h => by cases h)).owns)
                have HNw : Hid (∀ k u, (tkC (5, ((s.data.toList.drop o).take 1), o))[k]? = some u → (w10.alloc (.cells #[.int .i64 5, .string T1, .int .i64 (o : Int)] 178)).cell? ((⟨w10.heap.size, 0, none⟩ : Addr).add k) = some u) := fun k u hk => by
                  have hv : Own (w10.alloc (.cells #[.int .i64 5, .string T1, .int .i64 (o : Int)] 178)) w10.heap.size 178 (tkC (5, ((s.data.toList.drop o).take 1), o)) := by
                    rw [show tkC (5, ((s.data.toList.drop o).take 1), o) = [.int .i64 5, .string T1, .int .i64 (o : Int)] by show [_, Value.string (bts _), _] = _; rw [HTt1.out]; rfl]
                    exact heap_alloc_new w10 _
                  rw [Addr.add_lit, Nat.zero_add, hv.cell]
                  exact hk
                have hone : ∀ u ∈ tkC (5, ((s.data.toList.drop o).take 1), o), u.oneCell' = true := by simp [Value.oneCell']
                go_wp2_with (at_builtin; refine wpList_append_own_at _ rfl _ _ 174 rfl 0 178 i0 _ 3 32 Tryz.underlying174 hi0 hz0 hzs hzb rfl (by decide) (.slice A0 pre.length c0) pre.length (flatT pre) rfl HOw.out ⟨w10.heap.size, 0, none⟩ 1 1 (tkC (5, ((s.data.toList.drop o).take 1), o)) rfl rfl HNw.out hone hb1 hb2 (Nat.zero_le _) ?_; intro v' w3 ho hg _ hat; obtain ⟨g1, cap1, rfl⟩ := owns_val3 ho; have hQ := HA10.out.push HS0.out HDn.out HTk.out ho hg hat; rw [HLn.out] at hQ; have HQ := Lib.hid hQ; clear ho hg hat hQ)
                go_roundw
                case rel => exact ⟨o + 1, _, by omega, by go_num, rfl, HQ⟩
                case measure => simp [intOf]; omega
              | false =>
                rw [hi1] at HI3
                have HQ := Lib.hid (HA10.out.bad HS0.out HDn.out (by rw [HTk1.out, if_neg (by simp [hi1])]; rfl))
                clear hi1
                go_wp2_with fail
                rw [← HW10.out]
                refine HI3.out.mono ?_
                rintro e w' ⟨rfl, rfl⟩
                clear hE1
                go_wp2
                go_ret2
                exact HQ.out
          | true =>
            have h95 : ((s[o].toNat : Int) != 95) = false := by rw [hwb] at hin; simpa using hin
            rw [hwb] at HI1 hin
            clear hin hwb
            have hl1 : (s.data.toList.drop o).length = s.size - o := by simp
            by_cases h2 : o + 2 ≤ s.size
            · have h2i : (o : Int) + 2 ≤ (s.size : Int) := by omega
              have hE2 : s.extract o (o + 2) = bts ((s.data.toList.drop o).take 2) := by rw [← bts_of (s.extract o _), ref_part, Nat.add_sub_cancel_left]
              have hO4 : Own (wr.alloc (.cells #[.string (bts [58,45]), .string (bts [33,61]), .string (bts [60,61]), .string (bts [62,61])] 9)) wr.heap.size 9 (twoL.map fun l => .string (bts l)) := heap_alloc_new wr _
              have hB4 : Below wr.heap.size wr (wr.alloc (.cells #[.string (bts [58,45]), .string (bts [33,61]), .string (bts [60,61]), .string (bts [62,61])] 9)) := (Below.refl _ _).alloc (Nat.le_refl _) _
              obtain ⟨w4, hw4⟩ : ∃ w4, w4 = wr.alloc (.cells #[.string (bts [58,45]), .string (bts [33,61]), .string (bts [60,61]), .string (bts [62,61])] 9) := ⟨_, rfl⟩
              rw [← hw4] at hO4 hB4
              have HI2 := Lib.hid (in_any wr.heap.size 0 4 twoL (bts ((s.data.toList.drop o).take 2)) w4 (by decide) (fun i x hx => by rw [Nat.zero_add, hO4.cell, List.getElem?_map, hx]; rfl))
              simp only at HI2
              have HA4 := Lib.hid (HA.out.below hB4)
              have HW4 := Lib.hid hw4
              obtain ⟨T2, hT2⟩ : ∃ T, bts ((s.data.toList.drop o).take 2) = T := ⟨_, rfl⟩
              rw [hT2] at HI2 hE2
              have HTt2 := Lib.hid hT2
              clear hw4 hO4 hB4 hT2 HA
              cases hi2 : inB twoL ((s.data.toList.drop o).take 2) with
              | true =>
                rw [hi2] at HI2
                have HTk : Hid (tokOf kindW (s.data.toList.drop o) = some (5, (s.data.toList.drop o).take 2)) := by show _ = _; rw [HTk0.out, if_pos hi2]; rfl
                have HLn : Hid (((s.data.toList.drop o).take 2).length = 2) := by show _ = _; rw [List.length_take, hl1]; omega
                clear hi2 hl1
                go_wp2_with fail
                refine (HI1.out _).mono ?_
                rintro e w' ⟨rfl, rfl⟩
                go_wp2_with fail
                rw [← HW4.out]
                refine HI2.out.mono ?_
                rintro e w' ⟨rfl, rfl⟩
                have HOw := Lib.hid ((HA4.out.1.kept ((Kept.refl [] w4).alloc (.cells #[.int .i64 5, .string T2, .int .i64 (o : Int)] 178)) (fun _ _ h => by cases h)).owns)
                have HNw : Hid (∀ k u, (tkC (5, ((s.data.toList.drop o).take 2), o))[k]? = some u → (w4.alloc (.cells #[.int .i64 5, .string T2, .int .i64 (o : Int)] 178)).cell? ((⟨w4.heap.size, 0, none⟩ : Addr).add k) = some u) := fun k u hk => by
                  have hv : Own (w4.alloc (.cells #[.int .i64 5, .string T2, .int .i64 (o : Int)] 178)) w4.heap.size 178 (tkC (5, ((s.data.toList.drop o).take 2), o)) := by
                    rw [show tkC (5, ((s.data.toList.drop o).take 2), o) = [.int .i64 5, .string T2, .int .i64 (o : Int)] by show [_, Value.string (bts _), _] = _; rw [HTt2.out]; rfl]
                    exact heap_alloc_new w4 _
                  rw [Addr.add_lit, Nat.zero_add, hv.cell]
                  exact hk
                have hone : ∀ u ∈ tkC (5, ((s.data.toList.drop o).take 2), o), u.oneCell' = true := by simp [Value.oneCell']
                go_wp2_with (at_builtin; refine wpList_append_own_at _ rfl _ _ 174 rfl 0 178 i0 _ 3 32 Tryz.underlying174 hi0 hz0 hzs hzb rfl (by decide) (.slice A0 pre.length c0) pre.length (flatT pre) rfl HOw.out ⟨w4.heap.size, 0, none⟩ 1 1 (tkC (5, ((s.data.toList.drop o).take 2), o)) rfl rfl HNw.out hone hb1 hb2 (Nat.zero_le _) ?_; intro v' w3 ho hg _ hat; obtain ⟨g1, cap1, rfl⟩ := owns_val3 ho; have hQ := HA4.out.push HS0.out HDn.out HTk.out ho hg hat; rw [HLn.out] at hQ; have HQ := Lib.hid hQ; clear ho hg hat hQ)
                go_roundw
                case rel => exact ⟨o + 2, _, by omega, by go_num, rfl, HQ⟩
                case measure => simp [intOf]; omega
              | false =>
                rw [hi2] at HI2
                have HTk1 : Hid (tokOf kindW (s.data.toList.drop o) = (if inB oneL ((s.data.toList.drop o).take 1) = true then some ((s.data.toList.drop o).take 1) else none).map fun p => (5, p)) := by show _ = _; rw [HTk0.out, if_neg (by simp [hi2])]
                clear hi2 hl1
                go_wp2_with fail
                refine (HI1.out _).mono ?_
                rintro e w' ⟨rfl, rfl⟩
                go_wp2_with fail
                rw [← HW4.out]
                refine HI2.out.mono ?_
                rintro e w' ⟨rfl, rfl⟩
                clear hE2 HW4 HI2
                have hE1 : s.extract o (o + 1) = bts ((s.data.toList.drop o).take 1) := by rw [← bts_of (s.extract o _), ref_part, Nat.add_sub_cancel_left]
                have hO10 : Own (w4.alloc (.cells #[.string (bts [40]), .string (bts [41]), .string (bts [44]), .string (bts [46]), .string (bts [61]), .string (bts [60]), .string (bts [62]), .string (bts [43]), .string (bts [45]), .string (bts [42])] 9)) w4.heap.size 9 (oneL.map fun l => .string (bts l)) := heap_alloc_new w4 _
                have hB10 : Below w4.heap.size w4 (w4.alloc (.cells #[.string (bts [40]), .string (bts [41]), .string (bts [44]), .string (bts [46]), .string (bts [61]), .string (bts [60]), .string (bts [62]), .string (bts [43]), .string (bts [45]), .string (bts [42])] 9)) := (Below.refl _ _).alloc (Nat.le_refl _) _
                obtain ⟨w10, hw10⟩ : ∃ w10, w10 = w4.alloc (.cells #[.string (bts [40]), .string (bts [41]), .string (bts [44]), .string (bts [46]), .string (bts [61]), .string (bts [60]), .string (bts [62]), .string (bts [43]), .string (bts [45]), .string (bts [42])] 9) := ⟨_, rfl⟩
                rw [← hw10] at hO10 hB10
                have HI3 := Lib.hid (in_any w4.heap.size 0 10 oneL (bts ((s.data.toList.drop o).take 1)) w10 (by decide) (fun i x hx => by rw [Nat.zero_add, hO10.cell, List.getElem?_map, hx]; rfl))
                simp only at HI3
                have HA10 := Lib.hid (HA4.out.below hB10)
                have HW10 := Lib.hid hw10
                obtain ⟨T1, hT1⟩ : ∃ T, bts ((s.data.toList.drop o).take 1) = T := ⟨_, rfl⟩
                rw [hT1] at HI3 hE1
                have HTt1 := Lib.hid hT1
                clear hw10 hO10 hB10 hT1 HA4
                cases hi1 : inB oneL ((s.data.toList.drop o).take 1) with
                | true =>
                  rw [hi1] at HI3
                  have HTk : Hid (tokOf kindW (s.data.toList.drop o) = some (5, (s.data.toList.drop o).take 1)) := by show _ = _; rw [HTk1.out, if_pos hi1]; rfl
                  have HLn : Hid (((s.data.toList.drop o).take 1).length = 1) := len_one hi1
                  clear hi1
                  go_wp2_with fail
                  rw [← HW10.out]
                  refine HI3.out.mono ?_
                  rintro e w' ⟨rfl, rfl⟩
                  have HOw := Lib.hid ((HA10.out.1.kept ((Kept.refl [] w10).alloc (.cells #[.int .i64 5, .string T1, .int .i64 (o : Int)] 178)) (fun _ _ h => by cases h)).owns)
                  have HNw : Hid (∀ k u, (tkC (5, ((s.data.toList.drop o).take 1), o))[k]? = some u → (w10.alloc (.cells #[.int .i64 5, .string T1, .int .i64 (o : Int)] 178)).cell? ((⟨w10.heap.size, 0, none⟩ : Addr).add k) = some u) := fun k u hk => by
                    have hv : Own (w10.alloc (.cells #[.int .i64 5, .string T1, .int .i64 (o : Int)] 178)) w10.heap.size 178 (tkC (5, ((s.data.toList.drop o).take 1), o)) := by
                      rw [show tkC (5, ((s.data.toList.drop o).take 1), o) = [.int .i64 5, .string T1, .int .i64 (o : Int)] by show [_, Value.string (bts _), _] = _; rw [HTt1.out]; rfl]
                      exact heap_alloc_new w10 _
                    rw [Addr.add_lit, Nat.zero_add, hv.cell]
                    exact hk
                  have hone : ∀ u ∈ tkC (5, ((s.data.toList.drop o).take 1), o), u.oneCell' = true := by simp [Value.oneCell']
                  go_wp2_with (at_builtin; refine wpList_append_own_at _ rfl _ _ 174 rfl 0 178 i0 _ 3 32 Tryz.underlying174 hi0 hz0 hzs hzb rfl (by decide) (.slice A0 pre.length c0) pre.length (flatT pre) rfl HOw.out ⟨w10.heap.size, 0, none⟩ 1 1 (tkC (5, ((s.data.toList.drop o).take 1), o)) rfl rfl HNw.out hone hb1 hb2 (Nat.zero_le _) ?_; intro v' w3 ho hg _ hat; obtain ⟨g1, cap1, rfl⟩ := owns_val3 ho; have hQ := HA10.out.push HS0.out HDn.out HTk.out ho hg hat; rw [HLn.out] at hQ; have HQ := Lib.hid hQ; clear ho hg hat hQ)
                  go_roundw
                  case rel => exact ⟨o + 1, _, by omega, by go_num, rfl, HQ⟩
                  case measure => simp [intOf]; omega
                | false =>
                  rw [hi1] at HI3
                  have HQ := Lib.hid (HA10.out.bad HS0.out HDn.out (by rw [HTk1.out, if_neg (by simp [hi1])]; rfl))
                  clear hi1
                  go_wp2_with fail
                  rw [← HW10.out]
                  refine HI3.out.mono ?_
                  rintro e w' ⟨rfl, rfl⟩
                  clear hE1
                  go_wp2
                  go_ret2
                  exact HQ.out
            · have h2i : (s.size : Int) < (o : Int) + 2 := by omega
              have hi2 : inB twoL ((s.data.toList.drop o).take 2) = false := by
                cases h : inB twoL ((s.data.toList.drop o).take 2) with
                | false => rfl
                | true => have := len_two h; omega
              have HTk1 : Hid (tokOf kindW (s.data.toList.drop o) = (if inB oneL ((s.data.toList.drop o).take 1) = true then some ((s.data.toList.drop o).take 1) else none).map fun p => (5, p)) := by show _ = _; rw [HTk0.out, if_neg (by simp [hi2])]
              obtain ⟨w4, hw4⟩ : ∃ w4, w4 = wr := ⟨_, rfl⟩
              have HA4 : Hid (RfA w s R o pre G (.slice A0 pre.length c0) w4) := by rw [hw4]; exact HA.out
              rw [← hw4]
              clear hi2 hl1 hw4 HA
              go_wp2_with fail
              refine (HI1.out _).mono ?_
              rintro e w' ⟨rfl, rfl⟩
              have hE1 : s.extract o (o + 1) = bts ((s.data.toList.drop o).take 1) := by rw [← bts_of (s.extract o _), ref_part, Nat.add_sub_cancel_left]
              have hO10 : Own (w4.alloc (.cells #[.string (bts [40]), .string (bts [41]), .string (bts [44]), .string (bts [46]), .string (bts [61]), .string (bts [60]), .string (bts [62]), .string (bts [43]), .string (bts [45]), .string (bts [42])] 9)) w4.heap.size 9 (oneL.map fun l => .string (bts l)) := heap_alloc_new w4 _
              have hB10 : Below w4.heap.size w4 (w4.alloc (.cells #[.string (bts [40]), .string (bts [41]), .string (bts [44]), .string (bts [46]), .string (bts [61]), .string (bts [60]), .string (bts [62]), .string (bts [43]), .string (bts [45]), .string (bts [42])] 9)) := (Below.refl _ _).alloc (Nat.le_refl _) _
              obtain ⟨w10, hw10⟩ : ∃ w10, w10 = w4.alloc (.cells #[.string (bts [40]), .string (bts [41]), .string (bts [44]), .string (bts [46]), .string (bts [61]), .string (bts [60]), .string (bts [62]), .string (bts [43]), .string (bts [45]), .string (bts [42])] 9) := ⟨_, rfl⟩
              rw [← hw10] at hO10 hB10
              have HI3 := Lib.hid (in_any w4.heap.size 0 10 oneL (bts ((s.data.toList.drop o).take 1)) w10 (by decide) (fun i x hx => by rw [Nat.zero_add, hO10.cell, List.getElem?_map, hx]; rfl))
              simp only at HI3
              have HA10 := Lib.hid (HA4.out.below hB10)
              have HW10 := Lib.hid hw10
              obtain ⟨T1, hT1⟩ : ∃ T, bts ((s.data.toList.drop o).take 1) = T := ⟨_, rfl⟩
              rw [hT1] at HI3 hE1
              have HTt1 := Lib.hid hT1
              clear hw10 hO10 hB10 hT1 HA4
              cases hi1 : inB oneL ((s.data.toList.drop o).take 1) with
              | true =>
                rw [hi1] at HI3
                have HTk : Hid (tokOf kindW (s.data.toList.drop o) = some (5, (s.data.toList.drop o).take 1)) := by show _ = _; rw [HTk1.out, if_pos hi1]; rfl
                have HLn : Hid (((s.data.toList.drop o).take 1).length = 1) := len_one hi1
                clear hi1
                go_wp2_with fail
                rw [← HW10.out]
                refine HI3.out.mono ?_
                rintro e w' ⟨rfl, rfl⟩
                have HOw := Lib.hid ((HA10.out.1.kept ((Kept.refl [] w10).alloc (.cells #[.int .i64 5, .string T1, .int .i64 (o : Int)] 178)) (fun _ _ h => by cases h)).owns)
                have HNw : Hid (∀ k u, (tkC (5, ((s.data.toList.drop o).take 1), o))[k]? = some u → (w10.alloc (.cells #[.int .i64 5, .string T1, .int .i64 (o : Int)] 178)).cell? ((⟨w10.heap.size, 0, none⟩ : Addr).add k) = some u) := fun k u hk => by
                  have hv : Own (w10.alloc (.cells #[.int .i64 5, .string T1, .int .i64 (o : Int)] 178)) w10.heap.size 178 (tkC (5, ((s.data.toList.drop o).take 1), o)) := by
                    rw [show tkC (5, ((s.data.toList.drop o).take 1), o) = [.int .i64 5, .string T1, .int .i64 (o : Int)] by show [_, Value.string (bts _), _] = _; rw [HTt1.out]; rfl]
                    exact heap_alloc_new w10 _
                  rw [Addr.add_lit, Nat.zero_add, hv.cell]
                  exact hk
                have hone : ∀ u ∈ tkC (5, ((s.data.toList.drop o).take 1), o), u.oneCell' = true := by simp [Value.oneCell']
                go_wp2_with (at_builtin; refine wpList_append_own_at _ rfl _ _ 174 rfl 0 178 i0 _ 3 32 Tryz.underlying174 hi0 hz0 hzs hzb rfl (by decide) (.slice A0 pre.length c0) pre.length (flatT pre) rfl HOw.out ⟨w10.heap.size, 0, none⟩ 1 1 (tkC (5, ((s.data.toList.drop o).take 1), o)) rfl rfl HNw.out hone hb1 hb2 (Nat.zero_le _) ?_; intro v' w3 ho hg _ hat; obtain ⟨g1, cap1, rfl⟩ := owns_val3 ho; have hQ := HA10.out.push HS0.out HDn.out HTk.out ho hg hat; rw [HLn.out] at hQ; have HQ := Lib.hid hQ; clear ho hg hat hQ)
                go_roundw
                case rel => exact ⟨o + 1, _, by omega, by go_num, rfl, HQ⟩
                case measure => simp [intOf]; omega
              | false =>
                rw [hi1] at HI3
                have HQ := Lib.hid (HA10.out.bad HS0.out HDn.out (by rw [HTk1.out, if_neg (by simp [hi1])]; rfl))
                clear hi1
                go_wp2_with fail
                rw [← HW10.out]
                refine HI3.out.mono ?_
                rintro e w' ⟨rfl, rfl⟩
                clear hE1
                go_wp2
                go_ret2
                exact HQ.out
    · have HQ := Lib.hid (HA.out.fin (List.drop_eq_nil_of_le (by simp; omega)))
      clear HA
      go_wp2
      go_ret2
      exact HQ.out
end Go.Proofs.YtikohamfnnlhcaaGreatDoor
