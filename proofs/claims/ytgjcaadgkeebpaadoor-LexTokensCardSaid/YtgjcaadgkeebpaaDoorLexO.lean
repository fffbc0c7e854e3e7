/- The document's side: which kind a word is; which sign a text begins with. Conditions: texts of at most Go's longest. -/
import Derived.Test.YtgjcaadgkeebpaaDoorLexN
namespace Go.Proofs.YtgjcaadgkeebpaaDoor
open Go.RowKit Go.Deep Go.Shelf

theorem var_ways (s : ByteArray) (h0 : 0 < s.size) : varB s.data.toList = true ∧ (65 : Int) ≤ (s[0].toNat : Int) ∧ (s[0].toNat : Int) ≤ 90 ∧ (s.size : Int) ≤ 32 ∨ varB s.data.toList = false ∧ (¬ (65 : Int) ≤ (s[0].toNat : Int) ∨ ((65 : Int) ≤ (s[0].toNat : Int) ∧ ¬ (s[0].toNat : Int) ≤ 90) ∨ ((65 : Int) ≤ (s[0].toNat : Int) ∧ (s[0].toNat : Int) ≤ 90 ∧ ¬ (s.size : Int) ≤ 32)) := by
  have HV : varB s.data.toList = (upB s[0] && decide ((s.size : Int) ≤ 32)) := by
    have e := drop_at s h0
    rw [List.drop_zero] at e
    have hz : s.data.toList.length = s.size := by simp
    rw [← hz]
    conv => lhs; rw [e]
    simp only [varB]
    congr 1
    rw [← e]
  rw [HV]
  by_cases h65 : (65 : Int) ≤ (s[0].toNat : Int)
  · by_cases h90 : (s[0].toNat : Int) ≤ 90
    · by_cases h32 : (s.size : Int) ≤ 32
      · exact .inl ⟨by simp [upB, h65, h90, h32], h65, h90, h32⟩
      · exact .inr ⟨by simp [h32], .inr (.inr ⟨h65, h90, h32⟩)⟩
    · exact .inr ⟨by simp [upB, h90], .inr (.inl ⟨h65, h90⟩)⟩
  · exact .inr ⟨by simp [upB, h65], .inl h65⟩
theorem inB_key (l : List UInt8) : inB keysL l = keyB l := rfl

set_option maxRecDepth 100000 in
set_option maxHeartbeats 2000000 in
theorem word_any (s : ByteArray) (w : World) (hs : s.size ≤ maxLen) (h0 : 0 < s.size) :
    Calls Tryd.prog 17 #[.string s] w fun e w' => e = .returned (.int .i64 (kindW s.data.toList)) ∧ Below w.heap.size w w' := by
  have hO : Own (w.alloc (.cells #[.string (bts [114,101,108]), .string (bts [105,110,116]), .string (bts [115,121,109]), .string (bts [110,111,116]), .string (bts [99,111,117,110,116]), .string (bts [115,117,109]), .string (bts [109,105,110]), .string (bts [109,97,120])] 9)) w.heap.size 9 (keysL.map fun l => .string (bts l)) := heap_alloc_new w _
  have hB0 : Below w.heap.size w (w.alloc (.cells #[.string (bts [114,101,108]), .string (bts [105,110,116]), .string (bts [115,121,109]), .string (bts [110,111,116]), .string (bts [99,111,117,110,116]), .string (bts [115,117,109]), .string (bts [109,105,110]), .string (bts [109,97,120])] 9)) := (Below.refl _ _).alloc (Nat.le_refl _) _
  have hw0 : ∃ w0, w0 = (w.alloc (.cells #[.string (bts [114,101,108]), .string (bts [105,110,116]), .string (bts [115,121,109]), .string (bts [110,111,116]), .string (bts [99,111,117,110,116]), .string (bts [115,117,109]), .string (bts [109,105,110]), .string (bts [109,97,120])] 9)) := ⟨_, rfl⟩
  obtain ⟨w0, hw0⟩ := hw0
  rw [← hw0] at hO hB0
  have HI := Lib.hid (in_any w.heap.size 0 8 keysL s w0 (by decide) (fun i x hx => by rw [Nat.zero_add, hO.cell, List.getElem?_map, hx]; rfl))
  rw [inB_key] at HI
  have HW := Lib.hid hw0
  have B0 := Lib.hid hB0
  have HVW := Lib.hid (var_ways s h0)
  have hs' := hs
  unfold maxLen at hs
  clear hO hB0 hw0
  cases h1 : keyB s.data.toList with
  | true =>
    have HQ : Hid (kindW s.data.toList = 1) := by show _ = _; simp [kindW, h1]
    rw [h1] at HI
    clear h1 HVW
    go_enter Tryd.func17, Tryd.ntmps17
    go_wp2_with fail
    rw [← HW.out]
    refine HI.out.mono ?_
    rintro e w1 ⟨rfl, rfl⟩
    go_wp2
    go_ret
    exact ⟨by rw [HQ.out]; rfl, B0.out⟩
  | false =>
    rw [h1] at HI
    cases h2 : isName s.data.toList with
    | true =>
      have HQ : Hid (kindW s.data.toList = 2) := by show _ = _; simp [kindW, h1, h2]
      have HN := Lib.hid (refName_is s true h2 hs' w0)
      clear h1 h2 HVW
      go_enter Tryd.func17, Tryd.ntmps17
      go_wp2_with fail
      rw [← HW.out]
      refine HI.out.mono ?_
      rintro e w1 ⟨rfl, rfl⟩
      go_wp2_with fail
      refine HN.out.mono ?_
      rintro e w1 ⟨rfl, rfl⟩
      go_wp2
      go_ret
      exact ⟨by rw [HQ.out]; rfl, B0.out⟩
    | false =>
      have HN := Lib.hid (refName_is s false h2 hs' w0)
      rcases HVW.out with ⟨hv, v1, v2, v3⟩ | ⟨hv, hv2⟩
      · have HQ : Hid (kindW s.data.toList = 3) := by show _ = _; simp [kindW, h1, h2, hv]
        clear h1 h2 HVW hv
        go_enter Tryd.func17, Tryd.ntmps17
        go_wp2_with fail
        rw [← HW.out]
        refine HI.out.mono ?_
        rintro e w1 ⟨rfl, rfl⟩
        go_wp2_with fail
        refine HN.out.mono ?_
        rintro e w1 ⟨rfl, rfl⟩
        go_wp2
        go_ret
        exact ⟨by rw [HQ.out]; rfl, B0.out⟩
      · have HP := Lib.hid (refParse_any s w0 hs' h2)
        cases h4 : pv s.data.toList with
        | some n =>
          have HQ : Hid (kindW s.data.toList = 4) := by show _ = _; simp [kindW, h1, h2, hv, h4]
          rw [h4] at HP
          simp only [outV] at HP
          clear h1 h2 HVW hv h4
          rcases hv2 with v | ⟨v, v'⟩ | ⟨v, v', v''⟩
          all_goals
            go_enter Tryd.func17, Tryd.ntmps17
            go_wp2_with fail
            rw [← HW.out]
            refine HI.out.mono ?_
            rintro e w1 ⟨rfl, rfl⟩
            go_wp2_with fail
            refine HN.out.mono ?_
            rintro e w1 ⟨rfl, rfl⟩
            go_wp2_with fail
            refine HP.out.mono ?_
            rintro e w2 ⟨rfl, b2⟩
            have B2 := Lib.hid (B0.out.trans (b2.mono B0.out.size))
            clear b2
            go_wp2
            go_ret
            exact ⟨by rw [HQ.out]; rfl, B2.out.alloc B2.out.size _⟩
        | none =>
          have HQ : Hid (kindW s.data.toList = 0) := by show _ = _; simp [kindW, h1, h2, hv, h4]
          rw [h4] at HP
          simp only [outV] at HP
          clear h1 h2 HVW hv h4
          rcases hv2 with v | ⟨v, v'⟩ | ⟨v, v', v''⟩
          all_goals
            go_enter Tryd.func17, Tryd.ntmps17
            go_wp2_with fail
            rw [← HW.out]
            refine HI.out.mono ?_
            rintro e w1 ⟨rfl, rfl⟩
            go_wp2_with fail
            refine HN.out.mono ?_
            rintro e w1 ⟨rfl, rfl⟩
            go_wp2_with fail
            refine HP.out.mono ?_
            rintro e w2 ⟨rfl, b2⟩
            have B2 := Lib.hid (B0.out.trans (b2.mono B0.out.size))
            clear b2
            go_wp2
            go_ret
            exact ⟨by rw [HQ.out]; rfl, B2.out.alloc B2.out.size _⟩

/-- the signs of two bytes, and of one. -/
def twoL : List (List UInt8) := [[58,45],[33,61],[60,61],[62,61]]
def oneL : List (List UInt8) := [[40],[41],[44],[46],[61],[60],[62],[43],[45],[42]]
theorem pre_two {a b : UInt8} {l : List UInt8} : ([a, b] : List UInt8).isPrefixOf l = (l.take 2 == [a, b]) := by
  match l with
  | [] => rfl
  | [c] => simp [List.isPrefixOf]
  | c :: d :: r =>
    simp only [List.isPrefixOf, List.take_succ_cons, List.take_zero]
    rw [Bool.eq_iff_iff]
    simp only [Bool.and_eq_true, beq_iff_eq, List.cons.injEq, and_true]
    exact ⟨fun h => ⟨h.1.symm, h.2.symm⟩, fun h => ⟨h.1.symm, h.2.symm⟩⟩
theorem pre_one {a : UInt8} {l : List UInt8} : ([a] : List UInt8).isPrefixOf l = (l.take 1 == [a]) := by
  match l with
  | [] => rfl
  | c :: r =>
    simp only [List.isPrefixOf, List.take_succ_cons, List.take_zero]
    rw [Bool.eq_iff_iff]
    simp only [Bool.and_eq_true, beq_iff_eq, List.cons.injEq, and_true]
    exact ⟨fun h => h.symm, fun h => h.symm⟩
theorem signOf_eq (l : List UInt8) : signOf l = if inB twoL (l.take 2) = true then some (l.take 2) else if inB oneL (l.take 1) = true then some (l.take 1) else none := by
  unfold signOf signsL inB twoL oneL
  simp only [List.find?_cons, List.find?_nil, pre_two, pre_one, List.contains_cons, List.contains_nil, Bool.or_false]
  generalize l.take 2 = x
  generalize l.take 1 = y
  by_cases a1 : x = [58, 45]
  · subst a1; rfl
  by_cases a2 : x = [33, 61]
  · subst a2; rfl
  by_cases a3 : x = [60, 61]
  · subst a3; rfl
  by_cases a4 : x = [62, 61]
  · subst a4; rfl
  have e1 : (x == [58, 45]) = false := by simpa using a1
  have e2 : (x == [33, 61]) = false := by simpa using a2
  have e3 : (x == [60, 61]) = false := by simpa using a3
  have e4 : (x == [62, 61]) = false := by simpa using a4
  simp only [e1, e2, e3, e4, Bool.or_self, Bool.false_eq_true, if_false]
  by_cases b1 : y = [40]
  · subst b1; rfl
  by_cases b2 : y = [41]
  · subst b2; rfl
  by_cases b3 : y = [44]
  · subst b3; rfl
  by_cases b4 : y = [46]
  · subst b4; rfl
  by_cases b5 : y = [61]
  · subst b5; rfl
  by_cases b6 : y = [60]
  · subst b6; rfl
  by_cases b7 : y = [62]
  · subst b7; rfl
  by_cases b8 : y = [43]
  · subst b8; rfl
  by_cases b9 : y = [45]
  · subst b9; rfl
  by_cases b10 : y = [42]
  · subst b10; rfl
  have f1 : (y == [40]) = false := by simpa using b1
  have f2 : (y == [41]) = false := by simpa using b2
  have f3 : (y == [44]) = false := by simpa using b3
  have f4 : (y == [46]) = false := by simpa using b4
  have f5 : (y == [61]) = false := by simpa using b5
  have f6 : (y == [60]) = false := by simpa using b6
  have f7 : (y == [62]) = false := by simpa using b7
  have f8 : (y == [43]) = false := by simpa using b8
  have f9 : (y == [45]) = false := by simpa using b9
  have f10 : (y == [42]) = false := by simpa using b10
  simp only [f1, f2, f3, f4, f5, f6, f7, f8, f9, f10, Bool.or_self, Bool.false_eq_true, if_false]
theorem kind_under (r : List UInt8) : kindW (95 :: r) = 0 := by
  have h1 : keyB (95 :: r) = false := by
    cases h : keyB (95 :: r) with
    | false => rfl
    | true =>
      unfold keyB keysL at h
      simp at h
  have h2 : isName (95 :: r) = false := by
    unfold isName
    have : okFrom (95 :: r) = false := by simp [okFrom, isLet]
    simp [this]
  have h3 : varB (95 :: r) = false := by
    have : upB 95 = false := by decide
    simp [varB, this]
  have h4 : pv (95 :: r) = none := by
    have hd : Lib.decFrom 0 (95 :: r) = none := by simp [Lib.decFrom, Lib.digitVal]
    simp [pv, pnum, hd, signed]
  simp [kindW, h1, h2, h3, h4]
end Go.Proofs.YtgjcaadgkeebpaaDoor
