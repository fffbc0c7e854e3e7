/- The document's literals, rules and programs: which are right, which are formed. Conditions: texts of at most 2^47 bytes. -/
import Derived.Test.YtikohamfnnlhcaaGreatDoorPcTermRq
set_option linter.unusedVariables false
set_option linter.unusedSimpArgs false
namespace Go.Proofs.YtikohamfnnlhcaaGreatDoor
open Go.RowKit Go.Deep Go.Shelf

set_option maxRecDepth 100000 in
set_option maxHeartbeats 2000000 in
theorem refLt_is (x : TLt) (A : Option Addr) (c : Nat) (L : Option Addr) (d : Nat) (R : Option Addr) (f : Nat) (b : Bool) (w : World) (h : rightLt x = b) (hV : LtV w x A L R) :
    Calls Tryz.prog 25 #[ltV x A c L d R f] w fun r w' => r = .returned (.bool b) ∧ Below w.heap.size w w' := by
  unfold ltV
  unfold rightLt at h
  have hO : Own (w.alloc (.cells #[.int .i64 x.kind, .string x.atom.rel, .slice A x.atom.args.length c, .int .i64 x.op, .int .i64 x.left.op, .string x.left.t.v, .int .i64 x.left.t.k, .int .i64 x.left.t.n, .string x.left.t.s, .slice L x.left.kids.length d, .int .i64 x.right.op, .string x.right.t.v, .int .i64 x.right.t.k, .int .i64 x.right.t.n, .string x.right.t.s, .slice R x.right.kids.length f, .int .i64 x.pos] 77)) w.heap.size 77 [.int .i64 x.kind, .string x.atom.rel, .slice A x.atom.args.length c, .int .i64 x.op, .int .i64 x.left.op, .string x.left.t.v, .int .i64 x.left.t.k, .int .i64 x.left.t.n, .string x.left.t.s, .slice L x.left.kids.length d, .int .i64 x.right.op, .string x.right.t.v, .int .i64 x.right.t.k, .int .i64 x.right.t.n, .string x.right.t.s, .slice R x.right.kids.length f, .int .i64 x.pos] := heap_alloc_new _ _
  have HO0 := Lib.hid hO
  have HB0 : Hid (Below w.heap.size w (w.alloc (.cells #[.int .i64 x.kind, .string x.atom.rel, .slice A x.atom.args.length c, .int .i64 x.op, .int .i64 x.left.op, .string x.left.t.v, .int .i64 x.left.t.k, .int .i64 x.left.t.n, .string x.left.t.s, .slice L x.left.kids.length d, .int .i64 x.right.op, .string x.right.t.v, .int .i64 x.right.t.k, .int .i64 x.right.t.n, .string x.right.t.s, .slice R x.right.kids.length f, .int .i64 x.pos] 77))) := (Below.refl w.heap.size w).alloc (Nat.le_refl _) _
  have CA : Hid (∀ W, Below w.heap.size w W → Calls Tryz.prog 55 #[amV x.atom A c] W fun r w' => r = .returned (.bool (rightAm x.atom)) ∧ Below W.heap.size W w') := fun W hb => refAm_is x.atom A c _ W rfl (hV.am.below hb)
  have CZ1 : Hid (∀ W, Below w.heap.size w W → Calls Tryz.prog 57 #[exV x.left L d] W fun r w' => r = .returned (.bool (zeroE x.left)) ∧ Below W.heap.size W w') := fun W hb => refZero_is x.left L d _ W rfl
  have CZ2 : Hid (∀ W, Below w.heap.size w W → Calls Tryz.prog 57 #[exV x.right R f] W fun r w' => r = .returned (.bool (zeroE x.right)) ∧ Below W.heap.size W w') := fun W hb => refZero_is x.right R f _ W rfl
  have CE1 : Hid (∀ W, Below w.heap.size w W → Calls Tryz.prog 28 #[exV x.left L d] W fun r w' => r = .returned (.bool (rightE 20 x.left)) ∧ Below W.heap.size W w') := fun W hb => refExp_is x.left L d _ W rfl (hV.left.below hb)
  have CE2 : Hid (∀ W, Below w.heap.size w W → Calls Tryz.prog 28 #[exV x.right R f] W fun r w' => r = .returned (.bool (rightE 20 x.right)) ∧ Below W.heap.size W w') := fun W hb => refExp_is x.right R f _ W rfl (hV.right.below hb)
  unfold amV at CA
  unfold exV at CZ1 CZ2 CE1 CE2
  clear hV hO
  generalize rightAm x.atom = vA at h CA
  generalize zeroE x.left = vZ1 at h CZ1
  generalize zeroE x.right = vZ2 at h CZ2
  generalize rightE 20 x.left = vE1 at h CE1
  generalize rightE 20 x.right = vE2 at h CE2
  by_cases hk : x.kind = 1 ∨ x.kind = 2
  · rw [if_pos hk] at h
    have hk1 : ((x.kind == 1) = true) ∨ ((x.kind == 1) = false ∧ (x.kind == 2) = true) := by
      rcases hk with hk | hk
      · exact .inl (by simp [hk])
      · exact .inr ⟨by simp [hk], by simp [hk]⟩
    clear hk CE1 CE2
    cases vA with
    | false =>
      rw [Bool.false_and] at h
      subst h
      clear CZ1 CZ2
      rcases hk1 with e1 | ⟨e1, e2⟩
      all_goals
        go_enter Tryz.func25, Tryz.ntmps25
        go_wp2_with fail
        refine (CA.out _ HB0.out).mono ?_
        rintro r w1 ⟨rfl, hb⟩
        have HB1 : Hid (Below w.heap.size w w1) := HB0.out.trans (hb.mono HB0.out.size)
        have HO1 := Lib.hid (HO0.out.below hb)
        clear hb
        go_wp2_with fail
        go_ret
        exact ⟨rfl, HB1.out⟩
    | true =>
      rw [Bool.true_and] at h
      by_cases h2 : x.op = 0
      · have e3 : (x.op == 0) = true := by simp [h2]
        rw [decide_eq_true h2, Bool.true_and] at h
        clear h2
        cases vZ1 with
        | false =>
          rw [Bool.false_and] at h
          subst h
          clear CZ2
          rcases hk1 with e1 | ⟨e1, e2⟩
          all_goals
            go_enter Tryz.func25, Tryz.ntmps25
            go_wp2_with fail
            refine (CA.out _ HB0.out).mono ?_
            rintro r w1 ⟨rfl, hb⟩
            have HB1 : Hid (Below w.heap.size w w1) := HB0.out.trans (hb.mono HB0.out.size)
            have HO1 := Lib.hid (HO0.out.below hb)
            clear hb
            have c3 := HO1.out.cell 3
            have c4 := HO1.out.cell 4
            have c5 := HO1.out.cell 5
            have c6 := HO1.out.cell 6
            have c7 := HO1.out.cell 7
            have c8 := HO1.out.cell 8
            have c9 := HO1.out.cell 9
            simp only [List.getElem?_cons_zero, List.getElem?_cons_succ] at c3 c4 c5 c6 c7 c8 c9
            go_wp2_with fail
            refine (CZ1.out _ HB1.out).mono ?_
            rintro r w2 ⟨rfl, hb⟩
            have HB2 : Hid (Below w.heap.size w w2) := HB1.out.trans (hb.mono HB1.out.size)
            have HO2 := Lib.hid (HO1.out.below hb)
            clear hb c3 c4 c5 c6 c7 c8 c9
            go_wp2_with fail
            go_ret
            exact ⟨rfl, HB2.out⟩
        | true =>
          rw [Bool.true_and] at h
          subst h
          rcases hk1 with e1 | ⟨e1, e2⟩
          all_goals
            go_enter Tryz.func25, Tryz.ntmps25
            go_wp2_with fail
            refine (CA.out _ HB0.out).mono ?_
            rintro r w1 ⟨rfl, hb⟩
            have HB1 : Hid (Below w.heap.size w w1) := HB0.out.trans (hb.mono HB0.out.size)
            have HO1 := Lib.hid (HO0.out.below hb)
            clear hb
            have c3 := HO1.out.cell 3
            have c4 := HO1.out.cell 4
            have c5 := HO1.out.cell 5
            have c6 := HO1.out.cell 6
            have c7 := HO1.out.cell 7
            have c8 := HO1.out.cell 8
            have c9 := HO1.out.cell 9
            simp only [List.getElem?_cons_zero, List.getElem?_cons_succ] at c3 c4 c5 c6 c7 c8 c9
            go_wp2_with fail
            refine (CZ1.out _ HB1.out).mono ?_
            rintro r w2 ⟨rfl, hb⟩
            have HB2 : Hid (Below w.heap.size w w2) := HB1.out.trans (hb.mono HB1.out.size)
            have HO2 := Lib.hid (HO1.out.below hb)
            clear hb c3 c4 c5 c6 c7 c8 c9
            have c10 := HO2.out.cell 10
            have c11 := HO2.out.cell 11
            have c12 := HO2.out.cell 12
            have c13 := HO2.out.cell 13
            have c14 := HO2.out.cell 14
            have c15 := HO2.out.cell 15
            simp only [List.getElem?_cons_zero, List.getElem?_cons_succ] at c10 c11 c12 c13 c14 c15
            go_wp2_with fail
            refine (CZ2.out _ HB2.out).mono ?_
            rintro r w3 ⟨rfl, hb⟩
            have HB3 : Hid (Below w.heap.size w w3) := HB2.out.trans (hb.mono HB2.out.size)
            have HO3 := Lib.hid (HO2.out.below hb)
            clear hb c10 c11 c12 c13 c14 c15
            go_wp2_with fail
            go_ret
            exact ⟨rfl, HB3.out⟩
      · have e3 : (x.op == 0) = false := by simp [h2]
        rw [decide_eq_false h2, Bool.false_and] at h
        subst h
        clear h2 CZ1 CZ2
        rcases hk1 with e1 | ⟨e1, e2⟩
        all_goals
          go_enter Tryz.func25, Tryz.ntmps25
          go_wp2_with fail
          refine (CA.out _ HB0.out).mono ?_
          rintro r w1 ⟨rfl, hb⟩
          have HB1 : Hid (Below w.heap.size w w1) := HB0.out.trans (hb.mono HB0.out.size)
          have HO1 := Lib.hid (HO0.out.below hb)
          clear hb
          have c3 := HO1.out.cell 3
          simp only [List.getElem?_cons_zero, List.getElem?_cons_succ] at c3
          go_wp2_with fail
          go_ret
          exact ⟨rfl, HB1.out⟩
  · rw [if_neg hk] at h
    have e1 : (x.kind == 1) = false := by
      rw [beq_eq_false_iff_ne]
      exact fun e => hk (.inl e)
    have e2 : (x.kind == 2) = false := by
      rw [beq_eq_false_iff_ne]
      exact fun e => hk (.inr e)
    clear hk CA CZ1 CZ2
    by_cases h3 : x.kind = 3
    · rw [if_pos h3] at h
      have e3 : (x.kind == 3) = true := by simp [h3]
      unfold zeroAm at h
      clear h3
      by_cases h4 : x.atom.rel.size = 0
      · have e4 := beq0 h4
        rw [decide_eq_true h4, Bool.true_and] at h
        by_cases h5 : x.atom.args.length = 0
        · have e5 := beq0 h5
          rw [decide_eq_true h5, Bool.true_and] at h
          by_cases h6 : 1 ≤ x.op
          · have d6 : decide (1 ≤ x.op) = true := by simpa using h6
            by_cases h7 : x.op ≤ 6
            · have d7 : decide (x.op ≤ 6) = true := by simpa using h7
              rw [decide_eq_true (show 1 ≤ x.op ∧ x.op ≤ 6 from ⟨h6, h7⟩), Bool.true_and] at h
              clear h4 h5
              cases vE1 with
              | false =>
                rw [Bool.false_and] at h
                subst h
                clear CE2
                go_enter Tryz.func25, Tryz.ntmps25
                go_wp2_with fail
                refine (CE1.out _ HB0.out).mono ?_
                rintro r w1 ⟨rfl, hb⟩
                have HB1 : Hid (Below w.heap.size w w1) := HB0.out.trans (hb.mono HB0.out.size)
                have HO1 := Lib.hid (HO0.out.below hb)
                clear hb
                go_wp2_with fail
                go_ret
                exact ⟨rfl, HB1.out⟩
              | true =>
                rw [Bool.true_and] at h
                subst h
                go_enter Tryz.func25, Tryz.ntmps25
                go_wp2_with fail
                refine (CE1.out _ HB0.out).mono ?_
                rintro r w1 ⟨rfl, hb⟩
                have HB1 : Hid (Below w.heap.size w w1) := HB0.out.trans (hb.mono HB0.out.size)
                have HO1 := Lib.hid (HO0.out.below hb)
                clear hb
                have c10 := HO1.out.cell 10
                have c11 := HO1.out.cell 11
                have c12 := HO1.out.cell 12
                have c13 := HO1.out.cell 13
                have c14 := HO1.out.cell 14
                have c15 := HO1.out.cell 15
                simp only [List.getElem?_cons_zero, List.getElem?_cons_succ] at c10 c11 c12 c13 c14 c15
                go_wp2_with fail
                refine (CE2.out _ HB1.out).mono ?_
                rintro r w2 ⟨rfl, hb⟩
                have HB2 : Hid (Below w.heap.size w w2) := HB1.out.trans (hb.mono HB1.out.size)
                have HO2 := Lib.hid (HO1.out.below hb)
                clear hb c10 c11 c12 c13 c14 c15
                go_wp2_with fail
                go_ret
                exact ⟨rfl, HB2.out⟩
            · have d7 : decide (x.op ≤ 6) = false := by simp; omega
              rw [decide_eq_false (show ¬ (1 ≤ x.op ∧ x.op ≤ 6) from fun h => h7 h.2), Bool.false_and] at h
              subst h
              clear h4 h5 h7 CE1 CE2
              go_enter Tryz.func25, Tryz.ntmps25
              go_wp2_with fail
              go_ret
              exact ⟨rfl, (Below.refl _ _).alloc (Nat.le_refl _) _⟩
          · have d6 : decide (1 ≤ x.op) = false := by simp; omega
            rw [decide_eq_false (show ¬ (1 ≤ x.op ∧ x.op ≤ 6) from fun h => h6 h.1), Bool.false_and] at h
            subst h
            clear h4 h5 h6 CE1 CE2
            go_enter Tryz.func25, Tryz.ntmps25
            go_wp2_with fail
            go_ret
            exact ⟨rfl, (Below.refl _ _).alloc (Nat.le_refl _) _⟩
        · have e5 := beq0_not h5
          rw [decide_eq_false h5, Bool.false_and] at h
          subst h
          clear h4 h5 CE1 CE2
          go_enter Tryz.func25, Tryz.ntmps25
          go_wp2_with fail
          go_ret
          exact ⟨rfl, (Below.refl _ _).alloc (Nat.le_refl _) _⟩
      · have e4 := beq0_not h4
        rw [decide_eq_false h4, Bool.false_and, Bool.false_and] at h
        subst h
        clear h4 CE1 CE2
        go_enter Tryz.func25, Tryz.ntmps25
        go_wp2_with fail
        go_ret
        exact ⟨rfl, (Below.refl _ _).alloc (Nat.le_refl _) _⟩
    · rw [if_neg h3] at h
      have e3 : (x.kind == 3) = false := by simp [h3]
      subst h
      clear h3 CE1 CE2
      go_enter Tryz.func25, Tryz.ntmps25
      go_wp2_with fail
      go_ret
      exact ⟨rfl, (Below.refl _ _).alloc (Nat.le_refl _) _⟩
end Go.Proofs.YtikohamfnnlhcaaGreatDoor
