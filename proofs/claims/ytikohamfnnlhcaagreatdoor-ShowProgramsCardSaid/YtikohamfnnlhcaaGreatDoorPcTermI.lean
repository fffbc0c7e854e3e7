/- What is right: expressions, aggregates, literals. Conditions: texts of at most 2^47 bytes; lex's two tables and strconv's variables as they are laid. -/
import Derived.Test.YtikohamfnnlhcaaGreatDoorPcTermH
set_option linter.unusedVariables false
set_option linter.unusedSimpArgs false
namespace Go.Proofs.YtikohamfnnlhcaaGreatDoor
open Go.RowKit Go.Deep Go.Shelf

theorem rightE_leaf {e : TEx} (d : Nat) (h : e.op = 0) : rightE d e = (decide (e.kids.length = 0) && rightTm e.t) := by
  cases e with
  | mk op t ks =>
    change op = 0 at h
    subst h
    cases d with
    | zero => show (decide ((0 : Int) = 0) && _) = _; simp [TEx.kids, TEx.t]
    | succ d => show (if (0 : Int) = 0 then _ else _) = _; exact if_pos rfl
theorem rightE_deep {e : TEx} (h : ¬ e.op = 0) : rightE 0 e = false := by
  cases e with
  | mk op t ks =>
    change ¬ op = 0 at h
    show (decide (op = 0) && _) = _
    rw [decide_eq_false h, Bool.false_and]
theorem rightE_node {e : TEx} (d : Nat) (h : ¬ e.op = 0) : rightE (d + 1) e = (decide (1 ≤ e.op ∧ e.op ≤ 3) && (decide (e.t = zT) && match e.kids with | [a, b] => rightE d a && rightE d b | _ => false)) := by
  cases e with
  | mk op t ks =>
    change ¬ op = 0 at h
    show (if op = 0 then _ else _) = _
    rw [if_neg h]
    rfl
theorem two_of {α : Type} {l : List α} (h : l.length = 2) : ∃ x y, l = [x, y] := by
  match l, h with
  | [x, y], _ => exact ⟨x, y, rfl⟩
theorem not_two (d : Nat) : ∀ (l : List TEx), ¬ l.length = 2 → (match l with | [a, b] => rightE d a && rightE d b | _ => false) = false
  | [], _ => rfl
  | [_], _ => rfl
  | [_, _], h => absurd rfl h
  | _ :: _ :: _ :: _, _ => rfl
set_option maxRecDepth 100000 in
set_option maxHeartbeats 1000000 in
theorem exRight_is (d : Nat) : ∀ (e : TEx) (n : Int) (A : Option Addr) (c : Nat) (b : Bool) (w : World), rightE d e = b → n = (d : Int) → n ≤ 1000 → ExV w e A → Lays w →
    Calls Tryz.prog 84 #[exV e A c, .int .i64 n] w fun r w' => r = .returned (.bool b) ∧ Below w.heap.size w w' := by
  induction d with
  | zero =>
    intro e n A c b w h hn hn2 hV hL
    unfold exV
    have hb0 : Below w.heap.size w (w.alloc (.cells #[.int .i64 e.op, .string e.t.v, .int .i64 e.t.k, .int .i64 e.t.n, .string e.t.s, .slice A e.kids.length c] 61)) := (Below.refl w.heap.size w).alloc (Nat.le_refl _) _
    have HL := Lib.hid (hL.below hb0)
    have HV := Lib.hid (hV.below hb0)
    clear hb0
    by_cases h0 : e.op = 0
    · rw [rightE_leaf _ h0] at h
      have e0 : (e.op == 0) = true := by simp [h0]
      cases h1 : decide (e.kids.length = 0) with
      | false =>
        rw [h1, Bool.false_and] at h
        subst h
        have C : Hid (∀ W, Calls Tryz.prog 110 #[.agg #[.int .i64 e.op, .string e.t.v, .int .i64 e.t.k, .int .i64 e.t.n, .string e.t.s, .slice A e.kids.length c]] W fun r w' => r = .returned (.bool false) ∧ Below W.heap.size W w') := fun W => leaf_is e A c false h1 W
        clear h1 h0 hn hV hL
        go_enter Tryz.func84, Tryz.ntmps84
        go_wp2_with fail
        refine (C.out _).mono ?_
        rintro r w' ⟨rfl, hb⟩
        have HB : Hid (Below w.heap.size w w') := ((Below.refl _ _).alloc (Nat.le_refl _) _).trans (hb.mono (by simp))
        clear hb
        go_wp2_with fail
        go_ret
        exact ⟨rfl, HB.out⟩
      | true =>
        rw [h1, Bool.true_and] at h
        have C : Hid (∀ W, Calls Tryz.prog 110 #[.agg #[.int .i64 e.op, .string e.t.v, .int .i64 e.t.k, .int .i64 e.t.n, .string e.t.s, .slice A e.kids.length c]] W fun r w' => r = .returned (.bool true) ∧ Below W.heap.size W w') := fun W => leaf_is e A c true h1 W
        have H := Lib.hid h
        clear h1 h0 hn hV hL h
        go_enter Tryz.func84, Tryz.ntmps84
        go_wp2_with fail
        refine (C.out _).mono ?_
        rintro r w' ⟨rfl, hb⟩
        have c1 := (hb.cell (p := ⟨w.heap.size, 1, none⟩) (by simp)).trans ((World.cell?_alloc_new _ _ _ _).trans rfl)
        have c2 := (hb.cell (p := ⟨w.heap.size, 2, none⟩) (by simp)).trans ((World.cell?_alloc_new _ _ _ _).trans rfl)
        have c3 := (hb.cell (p := ⟨w.heap.size, 3, none⟩) (by simp)).trans ((World.cell?_alloc_new _ _ _ _).trans rfl)
        have c4 := (hb.cell (p := ⟨w.heap.size, 4, none⟩) (by simp)).trans ((World.cell?_alloc_new _ _ _ _).trans rfl)
        have HB : Hid (Below w.heap.size w w') := ((Below.refl _ _).alloc (Nat.le_refl _) _).trans (hb.mono (by simp))
        have C2 := Lib.hid (tmRight_is e.t b w' H.out HV.out.ok (HL.out.below hb))
        clear hb
        go_wp2_with fail
        refine C2.out.mono ?_
        rintro r w2 ⟨rfl, hb⟩
        have HB2 : Hid (Below w.heap.size w w2) := HB.out.trans (hb.mono HB.out.size)
        clear hb
        go_wp2_with fail
        go_ret
        exact ⟨rfl, HB2.out⟩
    · rw [rightE_deep h0] at h
      subst h
      have e0 : (e.op == 0) = false := by simp [h0]
      have e1 : (n == 0) = true := by simp [hn]
      clear h0 hn hV hL
      go_enter Tryz.func84, Tryz.ntmps84
      go_wp2_with fail
      go_ret
      exact ⟨rfl, (Below.refl _ _).alloc (Nat.le_refl _) _⟩
  | succ d ih =>
    intro e n A c b w h hn hn2 hV hL
    unfold exV
    have hb0 : Below w.heap.size w (w.alloc (.cells #[.int .i64 e.op, .string e.t.v, .int .i64 e.t.k, .int .i64 e.t.n, .string e.t.s, .slice A e.kids.length c] 61)) := (Below.refl w.heap.size w).alloc (Nat.le_refl _) _
    have HL := Lib.hid (hL.below hb0)
    have HV := Lib.hid (hV.below hb0)
    by_cases h0 : e.op = 0
    · clear hb0
      rw [rightE_leaf _ h0] at h
      have e0 : (e.op == 0) = true := by simp [h0]
      cases h1 : decide (e.kids.length = 0) with
      | false =>
        rw [h1, Bool.false_and] at h
        subst h
        have C : Hid (∀ W, Calls Tryz.prog 110 #[.agg #[.int .i64 e.op, .string e.t.v, .int .i64 e.t.k, .int .i64 e.t.n, .string e.t.s, .slice A e.kids.length c]] W fun r w' => r = .returned (.bool false) ∧ Below W.heap.size W w') := fun W => leaf_is e A c false h1 W
        clear h1 h0 hn hV hL
        go_enter Tryz.func84, Tryz.ntmps84
        go_wp2_with fail
        refine (C.out _).mono ?_
        rintro r w' ⟨rfl, hb⟩
        have HB : Hid (Below w.heap.size w w') := ((Below.refl _ _).alloc (Nat.le_refl _) _).trans (hb.mono (by simp))
        clear hb
        go_wp2_with fail
        go_ret
        exact ⟨rfl, HB.out⟩
      | true =>
        rw [h1, Bool.true_and] at h
        have C : Hid (∀ W, Calls Tryz.prog 110 #[.agg #[.int .i64 e.op, .string e.t.v, .int .i64 e.t.k, .int .i64 e.t.n, .string e.t.s, .slice A e.kids.length c]] W fun r w' => r = .returned (.bool true) ∧ Below W.heap.size W w') := fun W => leaf_is e A c true h1 W
        have H := Lib.hid h
        clear h1 h0 hn hV hL h
        go_enter Tryz.func84, Tryz.ntmps84
        go_wp2_with fail
        refine (C.out _).mono ?_
        rintro r w' ⟨rfl, hb⟩
        have c1 := (hb.cell (p := ⟨w.heap.size, 1, none⟩) (by simp)).trans ((World.cell?_alloc_new _ _ _ _).trans rfl)
        have c2 := (hb.cell (p := ⟨w.heap.size, 2, none⟩) (by simp)).trans ((World.cell?_alloc_new _ _ _ _).trans rfl)
        have c3 := (hb.cell (p := ⟨w.heap.size, 3, none⟩) (by simp)).trans ((World.cell?_alloc_new _ _ _ _).trans rfl)
        have c4 := (hb.cell (p := ⟨w.heap.size, 4, none⟩) (by simp)).trans ((World.cell?_alloc_new _ _ _ _).trans rfl)
        have HB : Hid (Below w.heap.size w w') := ((Below.refl _ _).alloc (Nat.le_refl _) _).trans (hb.mono (by simp))
        have C2 := Lib.hid (tmRight_is e.t b w' H.out HV.out.ok (HL.out.below hb))
        clear hb
        go_wp2_with fail
        refine C2.out.mono ?_
        rintro r w2 ⟨rfl, hb⟩
        have HB2 : Hid (Below w.heap.size w w2) := HB.out.trans (hb.mono HB.out.size)
        clear hb
        go_wp2_with fail
        go_ret
        exact ⟨rfl, HB2.out⟩
    · rw [rightE_node d h0] at h
      have e0 : (e.op == 0) = false := by simp [h0]
      have e1 : (n == 0) = false := by simp only [beq_eq_false_iff_ne]; omega
      have hn1 : (1 : Int) ≤ n := by omega
      have hnd : Hid (n - 1 = (d : Int)) := by show _ = _; omega
      clear hn h0
      cases h1 : decide (1 ≤ e.op ∧ e.op ≤ 3) with
      | false =>
        rw [h1, Bool.false_and] at h
        subst h
        have C : Hid (∀ W, Calls Tryz.prog 82 #[.int .i64 e.op, .int .i64 3] W fun e w' => e = .returned (.bool false) ∧ W = w') := fun W => numbered_is e.op 3 false h1 W
        clear h1 hV hL hb0
        go_enter Tryz.func84, Tryz.ntmps84
        go_wp2_with fail
        refine (C.out _).mono ?_
        rintro r w' ⟨rfl, rfl⟩
        go_wp2_with fail
        go_ret
        exact ⟨rfl, (Below.refl _ _).alloc (Nat.le_refl _) _⟩
      | true =>
        rw [h1, Bool.true_and] at h
        have C : Hid (∀ W, Calls Tryz.prog 82 #[.int .i64 e.op, .int .i64 3] W fun e w' => e = .returned (.bool true) ∧ W = w') := fun W => numbered_is e.op 3 true h1 W
        clear h1
        cases h2 : decide (e.t = zT) with
        | false =>
          rw [h2, Bool.false_and] at h
          subst h
          have kq := neTm e.t zT false h2
          unfold zT at kq
          simp only [Bool.not_false] at kq
          clear h2 hV hL hb0
          go_enter Tryz.func84, Tryz.ntmps84
          go_wp2_with fail
          refine (C.out _).mono ?_
          rintro r w' ⟨rfl, rfl⟩
          go_wp2_with fail
          go_ret
          exact ⟨rfl, (Below.refl _ _).alloc (Nat.le_refl _) _⟩
        | true =>
          rw [h2, Bool.true_and] at h
          have kq := neTm e.t zT true h2
          unfold zT at kq
          simp only [Bool.not_true] at kq
          clear h2
          by_cases h3 : e.kids.length = 2
          · obtain ⟨x, y, hxy⟩ := two_of h3
            rw [hxy] at h
            simp only at h
            obtain ⟨bA, oA, rfl, hbA, hrow⟩ := hV.row.2 (by omega)
            have hx := hrow 0 x (by rw [hxy]; rfl)
            have hy := hrow 1 y (by rw [hxy]; rfl)
            simp only [Nat.zero_mul, Nat.add_zero, Nat.one_mul] at hx hy
            obtain ⟨A0, a0, x0, x1, x2, x3, x4, x5, hxv⟩ := hx.open_
            obtain ⟨A1, a1, y0, y1, y2, y3, y4, y5, hyv⟩ := hy.open_
            have HX := Lib.hid (hxv.below hb0)
            have HY := Lib.hid (hyv.below hb0)
            rw [h3] at hb0 HX HY HL ⊢
            clear hxv hyv hx hy hrow hxy h3 hV hL HV
            cases h4 : rightE d x with
            | false =>
              rw [h4, Bool.false_and] at h
              subst h
              have C2 := Lib.hid (ih x (n - 1) A0 a0 false _ h4 hnd.out (by omega) HX.out HL.out)
              clear h4
              go_enter Tryz.func84, Tryz.ntmps84
              go_wp2_with fail
              refine (C.out _).mono ?_
              rintro r w' ⟨rfl, rfl⟩
              go_wp2_with fail
              refine C2.out.mono ?_
              rintro r w' ⟨rfl, hb⟩
              have HB : Hid (Below w.heap.size w w') := hb0.trans (hb.mono (by simp))
              clear hb
              go_wp2_with fail
              go_ret
              exact ⟨rfl, HB.out⟩
            | true =>
              rw [h4, Bool.true_and] at h
              have C2 := Lib.hid (ih x (n - 1) A0 a0 true _ h4 hnd.out (by omega) HX.out HL.out)
              have H := Lib.hid h
              clear h4 h
              go_enter Tryz.func84, Tryz.ntmps84
              go_wp2_with fail
              refine (C.out _).mono ?_
              rintro r w' ⟨rfl, rfl⟩
              go_wp2_with fail
              refine C2.out.mono ?_
              rintro r w' ⟨rfl, hb⟩
              have HB : Hid (Below w.heap.size w w') := hb0.trans (hb.mono (by simp))
              have c5 := (hb.cell (p := ⟨w.heap.size, 5, none⟩) (by simp)).trans ((World.cell?_alloc_new _ _ _ _).trans rfl)
              have y0 := (HB.out.cell (p := ⟨bA, oA + 6, none⟩) hbA).trans y0
              have y1 := (HB.out.cell (p := ⟨bA, oA + 6 + 1, none⟩) hbA).trans y1
              have y2 := (HB.out.cell (p := ⟨bA, oA + 6 + 2, none⟩) hbA).trans y2
              have y3 := (HB.out.cell (p := ⟨bA, oA + 6 + 3, none⟩) hbA).trans y3
              have y4 := (HB.out.cell (p := ⟨bA, oA + 6 + 4, none⟩) hbA).trans y4
              have y5 := (HB.out.cell (p := ⟨bA, oA + 6 + 5, none⟩) hbA).trans y5
              have C3 := Lib.hid (ih y (n - 1) A1 a1 b w' H.out hnd.out (by omega) (HY.out.below hb) (HL.out.below hb))
              clear hb
              go_wp2_with fail
              refine C3.out.mono ?_
              rintro r w2 ⟨rfl, hb⟩
              have HB2 : Hid (Below w.heap.size w w2) := HB.out.trans (hb.mono HB.out.size)
              clear hb
              go_wp2_with fail
              go_ret
              exact ⟨rfl, HB2.out⟩
          · have e3 : ((e.kids.length : Int) != 2) = true := by simp only [bne_iff_ne]; omega
            rw [not_two d _ h3] at h
            subst h
            clear h3 hV hL hb0
            go_enter Tryz.func84, Tryz.ntmps84
            go_wp2_with fail
            refine (C.out _).mono ?_
            rintro r w' ⟨rfl, rfl⟩
            go_wp2_with fail
            go_ret
            exact ⟨rfl, (Below.refl _ _).alloc (Nat.le_refl _) _⟩
set_option maxRecDepth 100000 in
theorem RightExp_is (e : TEx) (A : Option Addr) (c : Nat) (b : Bool) (w : World) (h : rightE 20 e = b) (hV : ExV w e A) (hL : Lays w) :
    Calls Tryz.prog 53 #[exV e A c] w fun r w' => r = .returned (.bool b) ∧ Below w.heap.size w w' := by
  have hb0 : Below w.heap.size w (w.alloc (.cells #[.int .i64 e.op, .string e.t.v, .int .i64 e.t.k, .int .i64 e.t.n, .string e.t.s, .slice A e.kids.length c] 61)) := (Below.refl w.heap.size w).alloc (Nat.le_refl _) _
  have C := Lib.hid (exRight_is 20 e 20 A c b _ h rfl (by omega) (hV.below hb0) (hL.below hb0))
  clear h hV hL
  unfold exV
  go_enter Tryz.func53, Tryz.ntmps53
  go_wp2_with fail
  refine C.out.mono ?_
  rintro r w' ⟨rfl, hb⟩
  have HB : Hid (Below w.heap.size w w') := hb0.trans (hb.mono (by simp))
  clear hb
  go_wp2_with fail
  go_ret
  exact ⟨rfl, HB.out⟩
end Go.Proofs.YtikohamfnnlhcaaGreatDoor
