/- What is right: literals. Conditions: texts of at most 2^47 bytes; lex's two tables and strconv's variables as they are laid. -/
import Derived.Test.YtikohamfnnlhcaaGreatDoorPcTermI
set_option linter.unusedVariables false
set_option linter.unusedSimpArgs false
namespace Go.Proofs.YtikohamfnnlhcaaGreatDoor
open Go.RowKit Go.Deep Go.Shelf

/-- the boxed literal: what of it is read again. -/
structure LtB (w : World) (x : TLt) (A : Option Addr) (c : Nat) (L : Option Addr) (d : Nat) (R : Option Addr) (f : Nat) (W : World) : Prop where
  own : Own W w.heap.size 63 [.int .i64 x.kind, .string x.atom.rel, .slice A x.atom.args.length c, .int .i64 x.op, .int .i64 x.left.op, .string x.left.t.v, .int .i64 x.left.t.k, .int .i64 x.left.t.n, .string x.left.t.s, .slice L x.left.kids.length d,
    .int .i64 x.right.op, .string x.right.t.v, .int .i64 x.right.t.k, .int .i64 x.right.t.n, .string x.right.t.s, .slice R x.right.kids.length f, .int .i64 x.pos]
  low : Below w.heap.size w W
theorem LtB.below {w X Y : World} {x : TLt} {A L R : Option Addr} {c d f : Nat} (h : LtB w x A c L d R f X) (hb : Below X.heap.size X Y) : LtB w x A c L d R f Y := ⟨h.own.below hb, h.low.trans (hb.mono h.low.size)⟩
theorem lt_box (w : World) (x : TLt) (A : Option Addr) (c : Nat) (L : Option Addr) (d : Nat) (R : Option Addr) (f : Nat) : LtB w x A c L d R f (w.alloc (.cells #[.int .i64 x.kind, .string x.atom.rel, .slice A x.atom.args.length c, .int .i64 x.op, .int .i64 x.left.op, .string x.left.t.v, .int .i64 x.left.t.k, .int .i64 x.left.t.n, .string x.left.t.s, .slice L x.left.kids.length d,
    .int .i64 x.right.op, .string x.right.t.v, .int .i64 x.right.t.k, .int .i64 x.right.t.n, .string x.right.t.s, .slice R x.right.kids.length f, .int .i64 x.pos] 63)) := ⟨heap_alloc_new w _, (Below.refl _ _).alloc (Nat.le_refl _) _⟩
set_option maxRecDepth 100000 in
set_option maxHeartbeats 2000000 in
theorem RightLiteral_is (x : TLt) (A : Option Addr) (c : Nat) (L : Option Addr) (d : Nat) (R : Option Addr) (f : Nat) (b : Bool) (w : World) (h : rightLt x = b) (hV : LtV w x A L R) (hL : Lays w) :
    Calls Tryz.prog 50 #[ltV x A c L d R f] w fun r w' => r = .returned (.bool b) ∧ Below w.heap.size w w' := by
  have hB0 := lt_box w x A c L d R f
  unfold ltV
  unfold rightLt at h
  have H0 := Lib.hid hB0
  have HL := Lib.hid (hL.below hB0.low)
  have HV := Lib.hid (hV.below hB0.low)
  have HLw := Lib.hid hL
  have HVw := Lib.hid hV
  clear hL hV hB0
  by_cases hk : x.kind = 1 ∨ x.kind = 2
  · rw [if_pos hk] at h
    cases h1 : rightAm x.atom with
    | false =>
      rw [h1, Bool.false_and] at h
      subst h
      have C1 := Lib.hid (amRight_is x.atom A c false _ h1 HV.out.am HL.out)
      unfold amV at C1
      have hk1 : ((x.kind == 1) = true) ∨ ((x.kind == 1) = false ∧ (x.kind == 2) = true) := by
        rcases hk with hk | hk
        · exact .inl (by simp [hk])
        · exact .inr ⟨by simp [hk], by simp [hk]⟩
      clear h1 hk
      rcases hk1 with e1 | ⟨e1, e2⟩
      all_goals
        go_enter Tryz.func50, Tryz.ntmps50
        go_wp2_with fail
        refine C1.out.mono ?_
        rintro r w' ⟨rfl, hb⟩
        have HB := Lib.hid (H0.out.below hb)
        clear hb
        go_wp2_with fail
        go_ret
        exact ⟨rfl, HB.out.low⟩
    | true =>
      rw [h1, Bool.true_and] at h
      have C1 := Lib.hid (amRight_is x.atom A c true _ h1 HV.out.am HL.out)
      unfold amV at C1
      have hk1 : ((x.kind == 1) = true) ∨ ((x.kind == 1) = false ∧ (x.kind == 2) = true) := by
        rcases hk with hk | hk
        · exact .inl (by simp [hk])
        · exact .inr ⟨by simp [hk], by simp [hk]⟩
      clear h1 hk
      by_cases h2 : x.op = 0
      · have e3 : (x.op == 0) = true := by simp [h2]
        rw [decide_eq_true h2, Bool.true_and] at h
        clear h2
        cases h3 : zeroE x.left with
        | false =>
          rw [h3, Bool.false_and] at h
          subst h
          have C2 : Hid (∀ W, Calls Tryz.prog 80 #[exV x.left L d] W fun r w' => r = .returned (.bool false) ∧ Below W.heap.size W w') := fun W => exZero_is x.left L d false W h3
          unfold exV at C2
          clear h3
          rcases hk1 with e1 | ⟨e1, e2⟩
          all_goals
            go_enter Tryz.func50, Tryz.ntmps50
            go_wp2_with fail
            refine C1.out.mono ?_
            rintro r w' ⟨rfl, hb⟩
            have HB := Lib.hid (H0.out.below hb)
            have c3 := HB.out.own.cell 3
            have c4 := HB.out.own.cell 4
            have c5 := HB.out.own.cell 5
            have c6 := HB.out.own.cell 6
            have c7 := HB.out.own.cell 7
            have c8 := HB.out.own.cell 8
            have c9 := HB.out.own.cell 9
            clear hb
            go_wp2_with fail
            refine (C2.out _).mono ?_
            rintro r w2 ⟨rfl, hb⟩
            have HB2 := Lib.hid (HB.out.below hb)
            clear hb c3 c4 c5 c6 c7 c8 c9
            go_wp2_with fail
            go_ret
            exact ⟨rfl, HB2.out.low⟩
        | true =>
          rw [h3, Bool.true_and] at h
          have C2 : Hid (∀ W, Calls Tryz.prog 80 #[exV x.left L d] W fun r w' => r = .returned (.bool true) ∧ Below W.heap.size W w') := fun W => exZero_is x.left L d true W h3
          have C3 : Hid (∀ W, Calls Tryz.prog 80 #[exV x.right R f] W fun r w' => r = .returned (.bool b) ∧ Below W.heap.size W w') := fun W => exZero_is x.right R f b W h
          unfold exV at C2 C3
          clear h3 h
          rcases hk1 with e1 | ⟨e1, e2⟩
          all_goals
            go_enter Tryz.func50, Tryz.ntmps50
            go_wp2_with fail
            refine C1.out.mono ?_
            rintro r w' ⟨rfl, hb⟩
            have HB := Lib.hid (H0.out.below hb)
            have c3 := HB.out.own.cell 3
            have c4 := HB.out.own.cell 4
            have c5 := HB.out.own.cell 5
            have c6 := HB.out.own.cell 6
            have c7 := HB.out.own.cell 7
            have c8 := HB.out.own.cell 8
            have c9 := HB.out.own.cell 9
            clear hb
            go_wp2_with fail
            refine (C2.out _).mono ?_
            rintro r w2 ⟨rfl, hb⟩
            have HB2 := Lib.hid (HB.out.below hb)
            clear hb c3 c4 c5 c6 c7 c8 c9
            have d0 := HB2.out.own.cell 10
            have d1 := HB2.out.own.cell 11
            have d2 := HB2.out.own.cell 12
            have d3 := HB2.out.own.cell 13
            have d4 := HB2.out.own.cell 14
            have d5 := HB2.out.own.cell 15
            go_wp2_with fail
            refine (C3.out _).mono ?_
            rintro r w3 ⟨rfl, hb⟩
            have HB3 := Lib.hid (HB2.out.below hb)
            clear hb d0 d1 d2 d3 d4 d5
            go_wp2_with fail
            go_ret
            exact ⟨rfl, HB3.out.low⟩
      · have e3 : (x.op == 0) = false := by simp [h2]
        rw [decide_eq_false h2, Bool.false_and] at h
        subst h
        clear h2
        rcases hk1 with e1 | ⟨e1, e2⟩
        all_goals
          go_enter Tryz.func50, Tryz.ntmps50
          go_wp2_with fail
          refine C1.out.mono ?_
          rintro r w' ⟨rfl, hb⟩
          have HB := Lib.hid (H0.out.below hb)
          have c3 := HB.out.own.cell 3
          clear hb
          go_wp2_with fail
          go_ret
          exact ⟨rfl, HB.out.low⟩
  · rw [if_neg hk] at h
    have e1 : (x.kind == 1) = false := by simp only [beq_eq_false_iff_ne]; exact fun e => hk (.inl e)
    have e2 : (x.kind == 2) = false := by simp only [beq_eq_false_iff_ne]; exact fun e => hk (.inr e)
    clear hk
    by_cases h3 : x.kind = 3
    · rw [if_pos h3] at h
      have e3 : (x.kind == 3) = true := by simp [h3]
      clear h3
      cases h1 : zeroAm x.atom with
      | false =>
        rw [h1, Bool.false_and] at h
        subst h
        have C1 : Hid (∀ W, Calls Tryz.prog 81 #[amV x.atom A c] W fun r w' => r = .returned (.bool false) ∧ Below W.heap.size W w') := fun W => amZero_is x.atom A c false W h1
        unfold amV at C1
        clear h1
        go_enter Tryz.func50, Tryz.ntmps50
        go_wp2_with fail
        refine (C1.out _).mono ?_
        rintro r w' ⟨rfl, hb⟩
        have HB := Lib.hid (H0.out.below hb)
        clear hb
        go_wp2_with fail
        go_ret
        exact ⟨rfl, HB.out.low⟩
      | true =>
        rw [h1, Bool.true_and] at h
        have C1 : Hid (∀ W, Calls Tryz.prog 81 #[amV x.atom A c] W fun r w' => r = .returned (.bool true) ∧ Below W.heap.size W w') := fun W => amZero_is x.atom A c true W h1
        unfold amV at C1
        clear h1
        cases h2 : decide (1 ≤ x.op ∧ x.op ≤ 6) with
        | false =>
          rw [h2, Bool.false_and] at h
          subst h
          have C2 : Hid (∀ W, Calls Tryz.prog 82 #[.int .i64 x.op, .int .i64 6] W fun e w' => e = .returned (.bool false) ∧ W = w') := fun W => numbered_is x.op 6 false h2 W
          clear h2
          go_enter Tryz.func50, Tryz.ntmps50
          go_wp2_with fail
          refine (C1.out _).mono ?_
          rintro r w' ⟨rfl, hb⟩
          have HB := Lib.hid (H0.out.below hb)
          have c3 := HB.out.own.cell 3
          clear hb
          go_wp2_with fail
          refine (C2.out _).mono ?_
          rintro r w2 ⟨rfl, rfl⟩
          go_wp2_with fail
          go_ret
          exact ⟨rfl, HB.out.low⟩
        | true =>
          rw [h2, Bool.true_and] at h
          have C2 : Hid (∀ W, Calls Tryz.prog 82 #[.int .i64 x.op, .int .i64 6] W fun e w' => e = .returned (.bool true) ∧ W = w') := fun W => numbered_is x.op 6 true h2 W
          clear h2
          cases h4 : rightE 20 x.left with
          | false =>
            rw [h4, Bool.false_and] at h
            subst h
            have C3 : Hid (∀ W, Below w.heap.size w W → Calls Tryz.prog 53 #[exV x.left L d] W fun r w' => r = .returned (.bool false) ∧ Below W.heap.size W w') := fun W hb => RightExp_is x.left L d false W h4 (HVw.out.left.below hb) (HLw.out.below hb)
            unfold exV at C3
            clear h4
            go_enter Tryz.func50, Tryz.ntmps50
            go_wp2_with fail
            refine (C1.out _).mono ?_
            rintro r w' ⟨rfl, hb⟩
            have HB := Lib.hid (H0.out.below hb)
            have c3 := HB.out.own.cell 3
            have c4 := HB.out.own.cell 4
            have c5 := HB.out.own.cell 5
            have c6 := HB.out.own.cell 6
            have c7 := HB.out.own.cell 7
            have c8 := HB.out.own.cell 8
            have c9 := HB.out.own.cell 9
            clear hb
            go_wp2_with fail
            refine (C2.out _).mono ?_
            rintro r w2 ⟨rfl, rfl⟩
            go_wp2_with fail
            refine (C3.out _ HB.out.low).mono ?_
            rintro r w2 ⟨rfl, hb⟩
            have HB2 := Lib.hid (HB.out.below hb)
            clear hb c3 c4 c5 c6 c7 c8 c9
            go_wp2_with fail
            go_ret
            exact ⟨rfl, HB2.out.low⟩
          | true =>
            rw [h4, Bool.true_and] at h
            have C3 : Hid (∀ W, Below w.heap.size w W → Calls Tryz.prog 53 #[exV x.left L d] W fun r w' => r = .returned (.bool true) ∧ Below W.heap.size W w') := fun W hb => RightExp_is x.left L d true W h4 (HVw.out.left.below hb) (HLw.out.below hb)
            have C4 : Hid (∀ W, Below w.heap.size w W → Calls Tryz.prog 53 #[exV x.right R f] W fun r w' => r = .returned (.bool b) ∧ Below W.heap.size W w') := fun W hb => RightExp_is x.right R f b W h (HVw.out.right.below hb) (HLw.out.below hb)
            unfold exV at C3 C4
            clear h4 h
            go_enter Tryz.func50, Tryz.ntmps50
            go_wp2_with fail
            refine (C1.out _).mono ?_
            rintro r w' ⟨rfl, hb⟩
            have HB := Lib.hid (H0.out.below hb)
            have c3 := HB.out.own.cell 3
            have c4 := HB.out.own.cell 4
            have c5 := HB.out.own.cell 5
            have c6 := HB.out.own.cell 6
            have c7 := HB.out.own.cell 7
            have c8 := HB.out.own.cell 8
            have c9 := HB.out.own.cell 9
            clear hb
            go_wp2_with fail
            refine (C2.out _).mono ?_
            rintro r w2 ⟨rfl, rfl⟩
            go_wp2_with fail
            refine (C3.out _ HB.out.low).mono ?_
            rintro r w2 ⟨rfl, hb⟩
            have HB2 := Lib.hid (HB.out.below hb)
            clear hb c3 c4 c5 c6 c7 c8 c9
            have d0 := HB2.out.own.cell 10
            have d1 := HB2.out.own.cell 11
            have d2 := HB2.out.own.cell 12
            have d3 := HB2.out.own.cell 13
            have d4 := HB2.out.own.cell 14
            have d5 := HB2.out.own.cell 15
            go_wp2_with fail
            refine (C4.out _ HB2.out.low).mono ?_
            rintro r w3 ⟨rfl, hb⟩
            have HB3 := Lib.hid (HB2.out.below hb)
            clear hb d0 d1 d2 d3 d4 d5
            go_wp2_with fail
            go_ret
            exact ⟨rfl, HB3.out.low⟩
    · rw [if_neg h3] at h
      subst h
      have e3 : (x.kind == 3) = false := by simp [h3]
      clear h3
      go_enter Tryz.func50, Tryz.ntmps50
      go_wp2_with fail
      go_ret
      exact ⟨rfl, H0.out.low⟩
end Go.Proofs.YtikohamfnnlhcaaGreatDoor
