/- Package term's Same: declarations, atoms, expressions, literals, rules, programs. Conditions: none. -/
import Derived.Test.YtolnikpihedmbaaGreatDoorPgTermSa
import Derived.Test.YtolnikpihedmbaaGreatDoorPgTermSc
import Derived.Test.YtolnikpihedmbaaGreatDoorPgTermSd
import Derived.Test.YtolnikpihedmbaaGreatDoorPgTermSe

set_option linter.unusedVariables false
set_option linter.unusedSimpArgs false
namespace Go.Proofs.YtolnikpihedmbaaGreatDoor
open Go.RowKit Go.Deep Go.Shelf

set_option maxRecDepth 100000 in
set_option maxHeartbeats 1000000 in
theorem deSame_is (x y : TDe) (A : Option Addr) (c : Nat) (A' : Option Addr) (c' : Nat) (w : World) (hV : Rg 1 IntC w A x.kinds) (hV' : Rg 1 IntC w A' y.kinds) :
    Calls Tryz.prog 20 #[.agg #[.string x.rel, .slice A x.kinds.length c, .int .i64 x.pos], .agg #[.string y.rel, .slice A' y.kinds.length c', .int .i64 y.pos]] w fun r w' => r = .returned (.bool (sameDe x y)) ∧ Below w.heap.size w w' := by
  have o1 : Own (w.alloc (.cells #[.string x.rel, .slice A x.kinds.length c, .int .i64 x.pos] 70)) w.heap.size 70 [.string x.rel, .slice A x.kinds.length c, .int .i64 x.pos] := heap_alloc_new _ _
  have o2 := heap_alloc_new (w.alloc (.cells #[.string x.rel, .slice A x.kinds.length c, .int .i64 x.pos] 70)) (.cells #[.string y.rel, .slice A' y.kinds.length c', .int .i64 y.pos] 70)
  simp only [World.size_alloc] at o2
  have HP0 : Hid (Own ((w.alloc (.cells #[.string x.rel, .slice A x.kinds.length c, .int .i64 x.pos] 70)).alloc (.cells #[.string y.rel, .slice A' y.kinds.length c', .int .i64 y.pos] 70)) w.heap.size 70 [.string x.rel, .slice A x.kinds.length c, .int .i64 x.pos]) := o1.alloc _
  have HQ0 : Hid (Own ((w.alloc (.cells #[.string x.rel, .slice A x.kinds.length c, .int .i64 x.pos] 70)).alloc (.cells #[.string y.rel, .slice A' y.kinds.length c', .int .i64 y.pos] 70)) (w.heap.size + 1) 70 [.string y.rel, .slice A' y.kinds.length c', .int .i64 y.pos]) := o2
  have HB0 : Hid (Below w.heap.size w ((w.alloc (.cells #[.string x.rel, .slice A x.kinds.length c, .int .i64 x.pos] 70)).alloc (.cells #[.string y.rel, .slice A' y.kinds.length c', .int .i64 y.pos] 70))) := ((Below.refl _ _).alloc (Nat.le_refl _) _).alloc (by simp) _
  clear o1 o2
  have hd : sameDe x y = (decide (x.rel = y.rel) && decide (x.kinds = y.kinds)) := rfl
  have e0 := txt_beq x.rel y.rel
  have C : Hid (∀ W, Below w.heap.size w W → Calls Tryz.prog 40 #[.slice A x.kinds.length c, .slice A' y.kinds.length c'] W fun r w' => r = .returned (.bool (decide (x.kinds = y.kinds))) ∧ Below W.heap.size W w') := fun W hb => eqKds_any A A' c c' x.kinds y.kinds W (hV.int (Pers.of hb)) (hV'.int (Pers.of hb))
  rw [hd]
  generalize decide (x.kinds = y.kinds) = vb at C ⊢
  cases h1 : decide (x.rel = y.rel) with
  | false =>
    rw [h1] at e0
    rw [Bool.false_and]
    clear h1 hd C
    have hB := HB0.out
    go_enter Tryz.func20, Tryz.ntmps20
    go_wp2_with fail
    go_ret
    exact ⟨rfl, hB⟩
  | true =>
    rw [h1] at e0
    rw [Bool.true_and]
    clear h1 hd
    go_enter Tryz.func20, Tryz.ntmps20
    go_wp2_with fail
    refine (C.out _ HB0.out).mono ?_
    rintro r w1 ⟨rfl, hb⟩
    have HB1 : Hid (Below w.heap.size w w1) := HB0.out.trans (hb.mono HB0.out.size)
    have HP1 := Lib.hid (HP0.out.below hb)
    have HQ1 := Lib.hid (HQ0.out.below hb)
    clear hb
    go_wp2_with fail
    go_ret
    exact ⟨rfl, HB1.out⟩
set_option maxRecDepth 100000 in
set_option maxHeartbeats 1000000 in
theorem amSame_is (x y : TAm) (A : Option Addr) (c : Nat) (A' : Option Addr) (c' : Nat) (w : World) (hV : AmV w x A) (hV' : AmV w y A') :
    Calls Tryz.prog 41 #[.agg #[.string x.rel, .slice A x.args.length c], .agg #[.string y.rel, .slice A' y.args.length c']] w fun r w' => r = .returned (.bool (sameAm x y)) ∧ Below w.heap.size w w' := by
  have o1 : Own (w.alloc (.cells #[.string x.rel, .slice A x.args.length c] 33)) w.heap.size 33 [.string x.rel, .slice A x.args.length c] := heap_alloc_new _ _
  have o2 := heap_alloc_new (w.alloc (.cells #[.string x.rel, .slice A x.args.length c] 33)) (.cells #[.string y.rel, .slice A' y.args.length c'] 33)
  simp only [World.size_alloc] at o2
  have HP0 : Hid (Own ((w.alloc (.cells #[.string x.rel, .slice A x.args.length c] 33)).alloc (.cells #[.string y.rel, .slice A' y.args.length c'] 33)) w.heap.size 33 [.string x.rel, .slice A x.args.length c]) := o1.alloc _
  have HQ0 : Hid (Own ((w.alloc (.cells #[.string x.rel, .slice A x.args.length c] 33)).alloc (.cells #[.string y.rel, .slice A' y.args.length c'] 33)) (w.heap.size + 1) 33 [.string y.rel, .slice A' y.args.length c']) := o2
  have HB0 : Hid (Below w.heap.size w ((w.alloc (.cells #[.string x.rel, .slice A x.args.length c] 33)).alloc (.cells #[.string y.rel, .slice A' y.args.length c'] 33))) := ((Below.refl _ _).alloc (Nat.le_refl _) _).alloc (by simp) _
  clear o1 o2
  have hd : sameAm x y = (decide (x.rel = y.rel) && decide (x.args = y.args)) := rfl
  have e0 := txt_beq x.rel y.rel
  have C : Hid (∀ W, Below w.heap.size w W → Calls Tryz.prog 64 #[.slice A x.args.length c, .slice A' y.args.length c'] W fun r w' => r = .returned (.bool (decide (x.args = y.args))) ∧ Below W.heap.size W w') := fun W hb => eqTms_any A A' c c' x.args y.args W (hV.row.tm (Pers.of hb)) (hV'.row.tm (Pers.of hb))
  rw [hd]
  generalize decide (x.args = y.args) = vb at C ⊢
  cases h1 : decide (x.rel = y.rel) with
  | false =>
    rw [h1] at e0
    rw [Bool.false_and]
    clear h1 hd C
    have hB := HB0.out
    go_enter Tryz.func41, Tryz.ntmps41
    go_wp2_with fail
    go_ret
    exact ⟨rfl, hB⟩
  | true =>
    rw [h1] at e0
    rw [Bool.true_and]
    clear h1 hd
    go_enter Tryz.func41, Tryz.ntmps41
    go_wp2_with fail
    refine (C.out _ HB0.out).mono ?_
    rintro r w1 ⟨rfl, hb⟩
    have HB1 : Hid (Below w.heap.size w w1) := HB0.out.trans (hb.mono HB0.out.size)
    have HP1 := Lib.hid (HP0.out.below hb)
    have HQ1 := Lib.hid (HQ0.out.below hb)
    clear hb
    go_wp2_with fail
    go_ret
    exact ⟨rfl, HB1.out⟩
theorem ex_cells {W : World} {b o : Nat} {e : TEx} {A : Option Addr} {c : Nat} (h0 : W.cell? ⟨b, o, none⟩ = some (.int .i64 e.op)) (h1 : W.cell? ⟨b, o + 1, none⟩ = some (.string e.t.v)) (h2 : W.cell? ⟨b, o + 2, none⟩ = some (.int .i64 e.t.k))
    (h3 : W.cell? ⟨b, o + 3, none⟩ = some (.int .i64 e.t.n)) (h4 : W.cell? ⟨b, o + 4, none⟩ = some (.string e.t.s)) (h5 : W.cell? ⟨b, o + 5, none⟩ = some (.slice A e.kids.length c)) :
    ∀ (i : Nat) v, (([.int .i64 e.op, .string e.t.v, .int .i64 e.t.k, .int .i64 e.t.n, .string e.t.s, .slice A e.kids.length c] : List Value))[i]? = some v → W.cell? ⟨b, o + i, none⟩ = some v := fun i v hv => by
  match i, hv with
  | 0, hv => cases hv; exact h0
  | 1, hv => cases hv; exact h1
  | 2, hv => cases hv; exact h2
  | 3, hv => cases hv; exact h3
  | 4, hv => cases hv; exact h4
  | 5, hv => cases hv; exact h5
  | n + 6, hv => simp at hv
set_option maxRecDepth 100000 in
set_option maxHeartbeats 2000000 in
theorem exSame_is (n : Nat) : ∀ (x y : TEx) (A : Option Addr) (c : Nat) (A' : Option Addr) (c' : Nat) (w : World), cntE x ≤ n → ExV w x A → ExV w y A' →
    Calls Tryz.prog 65 #[.agg #[.int .i64 x.op, .string x.t.v, .int .i64 x.t.k, .int .i64 x.t.n, .string x.t.s, .slice A x.kids.length c], .agg #[.int .i64 y.op, .string y.t.v, .int .i64 y.t.k, .int .i64 y.t.n, .string y.t.s, .slice A' y.kids.length c']] w fun r w' => r = .returned (.bool (sameE x y)) ∧ Below w.heap.size w w' := by
  induction n with
  | zero => intro x _ _ _ _ _ _ h; have := cntE_pos x; omega
  | succ n ih =>
  intro x y A c A' c' w hn hV hV'
  have o1 : Own (w.alloc (.cells #[.int .i64 x.op, .string x.t.v, .int .i64 x.t.k, .int .i64 x.t.n, .string x.t.s, .slice A x.kids.length c] 60)) w.heap.size 60 [.int .i64 x.op, .string x.t.v, .int .i64 x.t.k, .int .i64 x.t.n, .string x.t.s, .slice A x.kids.length c] := heap_alloc_new _ _
  have o2 := heap_alloc_new (w.alloc (.cells #[.int .i64 x.op, .string x.t.v, .int .i64 x.t.k, .int .i64 x.t.n, .string x.t.s, .slice A x.kids.length c] 60)) (.cells #[.int .i64 y.op, .string y.t.v, .int .i64 y.t.k, .int .i64 y.t.n, .string y.t.s, .slice A' y.kids.length c'] 60)
  simp only [World.size_alloc] at o2
  have HP0 : Hid (Own ((w.alloc (.cells #[.int .i64 x.op, .string x.t.v, .int .i64 x.t.k, .int .i64 x.t.n, .string x.t.s, .slice A x.kids.length c] 60)).alloc (.cells #[.int .i64 y.op, .string y.t.v, .int .i64 y.t.k, .int .i64 y.t.n, .string y.t.s, .slice A' y.kids.length c'] 60)) w.heap.size 60 [.int .i64 x.op, .string x.t.v, .int .i64 x.t.k, .int .i64 x.t.n, .string x.t.s, .slice A x.kids.length c]) := o1.alloc _
  have HQ0 : Hid (Own ((w.alloc (.cells #[.int .i64 x.op, .string x.t.v, .int .i64 x.t.k, .int .i64 x.t.n, .string x.t.s, .slice A x.kids.length c] 60)).alloc (.cells #[.int .i64 y.op, .string y.t.v, .int .i64 y.t.k, .int .i64 y.t.n, .string y.t.s, .slice A' y.kids.length c'] 60)) (w.heap.size + 1) 60 [.int .i64 y.op, .string y.t.v, .int .i64 y.t.k, .int .i64 y.t.n, .string y.t.s, .slice A' y.kids.length c']) := o2
  have HB0 : Hid (Below w.heap.size w ((w.alloc (.cells #[.int .i64 x.op, .string x.t.v, .int .i64 x.t.k, .int .i64 x.t.n, .string x.t.s, .slice A x.kids.length c] 60)).alloc (.cells #[.int .i64 y.op, .string y.t.v, .int .i64 y.t.k, .int .i64 y.t.n, .string y.t.s, .slice A' y.kids.length c'] 60))) := ((Below.refl _ _).alloc (Nat.le_refl _) _).alloc (by simp) _
  clear o1 o2
  have hd := sameE_eq x y
  have C : Hid (∀ W, Below w.heap.size w W → Calls Tryz.prog 78 #[.slice A x.kids.length c, .slice A' y.kids.length c', .func (.func 65) #[] #[]] W fun r w' => r = .returned (.bool (allTwo sameE x.kids y.kids)) ∧ Below W.heap.size W w') := fun W hb =>
    eqfEx_any A A' c c' x.kids y.kids W hV.row.1 hV'.row.1 (fun j h h' => by
      obtain ⟨g, o, rfl, hgw, hc⟩ := hV.row.at_ h
      obtain ⟨g', o', rfl, hgw', hc'⟩ := hV'.row.at_ h'
      obtain ⟨X, xc, x0, x1, x2, x3, x4, x5, hX⟩ := (hc.pers (Pers.of hb)).open_
      obtain ⟨Y, yc, y0, y1, y2, y3, y4, y5, hY⟩ := (hc'.pers (Pers.of hb)).open_
      have hk := cntE_kid h
      exact ⟨g, o, g', o', _, _, rfl, rfl, Nat.lt_of_lt_of_le hgw hb.size, Nat.lt_of_lt_of_le hgw' hb.size, rfl, rfl, by simp [Value.oneCell'], by simp [Value.oneCell'], ex_cells x0 x1 x2 x3 x4 x5, ex_cells y0 y1 y2 y3 y4 y5,
        fun W2 hb2 => ih _ _ X xc Y yc W2 (by omega) (hX.below hb2) (hY.below hb2)⟩)
  rw [hd]
  generalize allTwo sameE x.kids y.kids = vb at C ⊢
  have e0 : (x.op == y.op) = decide (x.op = y.op) := by
    by_cases h : x.op = y.op
    · simp [h]
    · rw [decide_eq_false h]; simp [h]
  clear hn hV hV' ih
  cases h1 : decide (x.op = y.op) with
  | false =>
    rw [h1] at e0
    rw [Bool.false_and]
    clear h1 hd C
    have hB := HB0.out
    go_enter Tryz.func65, Tryz.ntmps65
    go_wp2_with fail
    go_ret
    exact ⟨rfl, hB⟩
  | true =>
    rw [h1] at e0
    rw [Bool.true_and]
    cases h2 : decide (x.t = y.t) with
    | false =>
      have kq := eqTm x.t y.t false h2
      rw [Bool.false_and]
      clear h1 h2 hd C
      have hB := HB0.out
      go_enter Tryz.func65, Tryz.ntmps65
      go_wp2_with fail
      go_ret
      exact ⟨rfl, hB⟩
    | true =>
      have kq := eqTm x.t y.t true h2
      rw [Bool.true_and]
      clear h1 h2 hd
      go_enter Tryz.func65, Tryz.ntmps65
      go_wp2_with fail
      refine (C.out _ HB0.out).mono ?_
      rintro r w1 ⟨rfl, hb⟩
      have HB1 : Hid (Below w.heap.size w w1) := HB0.out.trans (hb.mono HB0.out.size)
      have HP1 := Lib.hid (HP0.out.below hb)
      have HQ1 := Lib.hid (HQ0.out.below hb)
      clear hb
      go_wp2_with fail
      go_ret
      exact ⟨rfl, HB1.out⟩
set_option maxRecDepth 100000 in
set_option maxHeartbeats 2000000 in
theorem ltSame_is (x y : TLt) (A : Option Addr) (c : Nat) (L : Option Addr) (d : Nat) (R : Option Addr) (f : Nat) (A' : Option Addr) (c' : Nat) (L' : Option Addr) (d' : Nat) (R' : Option Addr) (f' : Nat) (w : World) (hV : LtV w x A L R) (hV' : LtV w y A' L' R') :
    Calls Tryz.prog 44 #[.agg #[.int .i64 x.kind, .string x.atom.rel, .slice A x.atom.args.length c, .int .i64 x.op, .int .i64 x.left.op, .string x.left.t.v, .int .i64 x.left.t.k, .int .i64 x.left.t.n, .string x.left.t.s, .slice L x.left.kids.length d, .int .i64 x.right.op, .string x.right.t.v, .int .i64 x.right.t.k, .int .i64 x.right.t.n, .string x.right.t.s, .slice R x.right.kids.length f, .int .i64 x.pos], .agg #[.int .i64 y.kind, .string y.atom.rel, .slice A' y.atom.args.length c', .int .i64 y.op, .int .i64 y.left.op, .string y.left.t.v, .int .i64 y.left.t.k, .int .i64 y.left.t.n, .string y.left.t.s, .slice L' y.left.kids.length d', .int .i64 y.right.op, .string y.right.t.v, .int .i64 y.right.t.k, .int .i64 y.right.t.n, .string y.right.t.s, .slice R' y.right.kids.length f', .int .i64 y.pos]] w fun r w' => r = .returned (.bool (sameLt x y)) ∧ Below w.heap.size w w' := by
  have o1 : Own (w.alloc (.cells #[.int .i64 x.kind, .string x.atom.rel, .slice A x.atom.args.length c, .int .i64 x.op, .int .i64 x.left.op, .string x.left.t.v, .int .i64 x.left.t.k, .int .i64 x.left.t.n, .string x.left.t.s, .slice L x.left.kids.length d, .int .i64 x.right.op, .string x.right.t.v, .int .i64 x.right.t.k, .int .i64 x.right.t.n, .string x.right.t.s, .slice R x.right.kids.length f, .int .i64 x.pos] 62)) w.heap.size 62 [.int .i64 x.kind, .string x.atom.rel, .slice A x.atom.args.length c, .int .i64 x.op, .int .i64 x.left.op, .string x.left.t.v, .int .i64 x.left.t.k, .int .i64 x.left.t.n, .string x.left.t.s, .slice L x.left.kids.length d, .int .i64 x.right.op, .string x.right.t.v, .int .i64 x.right.t.k, .int .i64 x.right.t.n, .string x.right.t.s, .slice R x.right.kids.length f, .int .i64 x.pos] := heap_alloc_new _ _
  have o2 := heap_alloc_new (w.alloc (.cells #[.int .i64 x.kind, .string x.atom.rel, .slice A x.atom.args.length c, .int .i64 x.op, .int .i64 x.left.op, .string x.left.t.v, .int .i64 x.left.t.k, .int .i64 x.left.t.n, .string x.left.t.s, .slice L x.left.kids.length d, .int .i64 x.right.op, .string x.right.t.v, .int .i64 x.right.t.k, .int .i64 x.right.t.n, .string x.right.t.s, .slice R x.right.kids.length f, .int .i64 x.pos] 62)) (.cells #[.int .i64 y.kind, .string y.atom.rel, .slice A' y.atom.args.length c', .int .i64 y.op, .int .i64 y.left.op, .string y.left.t.v, .int .i64 y.left.t.k, .int .i64 y.left.t.n, .string y.left.t.s, .slice L' y.left.kids.length d', .int .i64 y.right.op, .string y.right.t.v, .int .i64 y.right.t.k, .int .i64 y.right.t.n, .string y.right.t.s, .slice R' y.right.kids.length f', .int .i64 y.pos] 62)
  simp only [World.size_alloc] at o2
  have HP0 : Hid (Own ((w.alloc (.cells #[.int .i64 x.kind, .string x.atom.rel, .slice A x.atom.args.length c, .int .i64 x.op, .int .i64 x.left.op, .string x.left.t.v, .int .i64 x.left.t.k, .int .i64 x.left.t.n, .string x.left.t.s, .slice L x.left.kids.length d, .int .i64 x.right.op, .string x.right.t.v, .int .i64 x.right.t.k, .int .i64 x.right.t.n, .string x.right.t.s, .slice R x.right.kids.length f, .int .i64 x.pos] 62)).alloc (.cells #[.int .i64 y.kind, .string y.atom.rel, .slice A' y.atom.args.length c', .int .i64 y.op, .int .i64 y.left.op, .string y.left.t.v, .int .i64 y.left.t.k, .int .i64 y.left.t.n, .string y.left.t.s, .slice L' y.left.kids.length d', .int .i64 y.right.op, .string y.right.t.v, .int .i64 y.right.t.k, .int .i64 y.right.t.n, .string y.right.t.s, .slice R' y.right.kids.length f', .int .i64 y.pos] 62)) w.heap.size 62 [.int .i64 x.kind, .string x.atom.rel, .slice A x.atom.args.length c, .int .i64 x.op, .int .i64 x.left.op, .string x.left.t.v, .int .i64 x.left.t.k, .int .i64 x.left.t.n, .string x.left.t.s, .slice L x.left.kids.length d, .int .i64 x.right.op, .string x.right.t.v, .int .i64 x.right.t.k, .int .i64 x.right.t.n, .string x.right.t.s, .slice R x.right.kids.length f, .int .i64 x.pos]) := o1.alloc _
  have HQ0 : Hid (Own ((w.alloc (.cells #[.int .i64 x.kind, .string x.atom.rel, .slice A x.atom.args.length c, .int .i64 x.op, .int .i64 x.left.op, .string x.left.t.v, .int .i64 x.left.t.k, .int .i64 x.left.t.n, .string x.left.t.s, .slice L x.left.kids.length d, .int .i64 x.right.op, .string x.right.t.v, .int .i64 x.right.t.k, .int .i64 x.right.t.n, .string x.right.t.s, .slice R x.right.kids.length f, .int .i64 x.pos] 62)).alloc (.cells #[.int .i64 y.kind, .string y.atom.rel, .slice A' y.atom.args.length c', .int .i64 y.op, .int .i64 y.left.op, .string y.left.t.v, .int .i64 y.left.t.k, .int .i64 y.left.t.n, .string y.left.t.s, .slice L' y.left.kids.length d', .int .i64 y.right.op, .string y.right.t.v, .int .i64 y.right.t.k, .int .i64 y.right.t.n, .string y.right.t.s, .slice R' y.right.kids.length f', .int .i64 y.pos] 62)) (w.heap.size + 1) 62 [.int .i64 y.kind, .string y.atom.rel, .slice A' y.atom.args.length c', .int .i64 y.op, .int .i64 y.left.op, .string y.left.t.v, .int .i64 y.left.t.k, .int .i64 y.left.t.n, .string y.left.t.s, .slice L' y.left.kids.length d', .int .i64 y.right.op, .string y.right.t.v, .int .i64 y.right.t.k, .int .i64 y.right.t.n, .string y.right.t.s, .slice R' y.right.kids.length f', .int .i64 y.pos]) := o2
  have HB0 : Hid (Below w.heap.size w ((w.alloc (.cells #[.int .i64 x.kind, .string x.atom.rel, .slice A x.atom.args.length c, .int .i64 x.op, .int .i64 x.left.op, .string x.left.t.v, .int .i64 x.left.t.k, .int .i64 x.left.t.n, .string x.left.t.s, .slice L x.left.kids.length d, .int .i64 x.right.op, .string x.right.t.v, .int .i64 x.right.t.k, .int .i64 x.right.t.n, .string x.right.t.s, .slice R x.right.kids.length f, .int .i64 x.pos] 62)).alloc (.cells #[.int .i64 y.kind, .string y.atom.rel, .slice A' y.atom.args.length c', .int .i64 y.op, .int .i64 y.left.op, .string y.left.t.v, .int .i64 y.left.t.k, .int .i64 y.left.t.n, .string y.left.t.s, .slice L' y.left.kids.length d', .int .i64 y.right.op, .string y.right.t.v, .int .i64 y.right.t.k, .int .i64 y.right.t.n, .string y.right.t.s, .slice R' y.right.kids.length f', .int .i64 y.pos] 62))) := ((Below.refl _ _).alloc (Nat.le_refl _) _).alloc (by simp) _
  clear o1 o2
  have hd : sameLt x y = (decide (x.kind = y.kind) && (decide (x.op = y.op) && (sameAm x.atom y.atom && (sameE x.left y.left && sameE x.right y.right)))) := rfl
  have CA : Hid (∀ W, Below w.heap.size w W → Calls Tryz.prog 41 #[.agg #[.string x.atom.rel, .slice A x.atom.args.length c], .agg #[.string y.atom.rel, .slice A' y.atom.args.length c']] W fun r w' => r = .returned (.bool (sameAm x.atom y.atom)) ∧ Below W.heap.size W w') := fun W hb => amSame_is x.atom y.atom A c A' c' W (hV.am.below hb) (hV'.am.below hb)
  have CL : Hid (∀ W, Below w.heap.size w W → Calls Tryz.prog 65 #[.agg #[.int .i64 x.left.op, .string x.left.t.v, .int .i64 x.left.t.k, .int .i64 x.left.t.n, .string x.left.t.s, .slice L x.left.kids.length d], .agg #[.int .i64 y.left.op, .string y.left.t.v, .int .i64 y.left.t.k, .int .i64 y.left.t.n, .string y.left.t.s, .slice L' y.left.kids.length d']] W fun r w' => r = .returned (.bool (sameE x.left y.left)) ∧ Below W.heap.size W w') := fun W hb => exSame_is (cntE x.left) x.left y.left L d L' d' W (Nat.le_refl _) (hV.left.below hb) (hV'.left.below hb)
  have CR : Hid (∀ W, Below w.heap.size w W → Calls Tryz.prog 65 #[.agg #[.int .i64 x.right.op, .string x.right.t.v, .int .i64 x.right.t.k, .int .i64 x.right.t.n, .string x.right.t.s, .slice R x.right.kids.length f], .agg #[.int .i64 y.right.op, .string y.right.t.v, .int .i64 y.right.t.k, .int .i64 y.right.t.n, .string y.right.t.s, .slice R' y.right.kids.length f']] W fun r w' => r = .returned (.bool (sameE x.right y.right)) ∧ Below W.heap.size W w') := fun W hb => exSame_is (cntE x.right) x.right y.right R f R' f' W (Nat.le_refl _) (hV.right.below hb) (hV'.right.below hb)
  rw [hd]
  clear hd hV hV'
  generalize sameAm x.atom y.atom = vA at CA ⊢
  generalize sameE x.left y.left = vL at CL ⊢
  generalize sameE x.right y.right = vR at CR ⊢
  have e0 : (x.kind == y.kind) = decide (x.kind = y.kind) := by
    by_cases h : x.kind = y.kind
    · simp [h]
    · rw [decide_eq_false h]; simp [h]
  have e1 : (x.op == y.op) = decide (x.op = y.op) := by
    by_cases h : x.op = y.op
    · simp [h]
    · rw [decide_eq_false h]; simp [h]
  cases h1 : decide (x.kind = y.kind) with
  | false =>
    rw [h1] at e0
    rw [Bool.false_and]
    clear h1 CA CL CR e1
    have hB := HB0.out
    go_enter Tryz.func44, Tryz.ntmps44
    go_wp2_with fail
    go_ret
    exact ⟨rfl, hB⟩
  | true =>
    rw [h1] at e0
    rw [Bool.true_and]
    cases h2 : decide (x.op = y.op) with
    | false =>
      rw [h2] at e1
      rw [Bool.false_and]
      clear h1 h2 CA CL CR
      have hB := HB0.out
      go_enter Tryz.func44, Tryz.ntmps44
      go_wp2_with fail
      go_ret
      exact ⟨rfl, hB⟩
    | true =>
      rw [h2] at e1
      rw [Bool.true_and]
      clear h1 h2
      cases vA with
      | false =>
        rw [Bool.false_and]
        clear CL CR
        go_enter Tryz.func44, Tryz.ntmps44
        go_wp2_with fail
        refine (CA.out _ HB0.out).mono ?_
        rintro r w1 ⟨rfl, hb⟩
        have HB1 : Hid (Below w.heap.size w w1) := HB0.out.trans (hb.mono HB0.out.size)
        have HP1 := Lib.hid (HP0.out.below hb)
        have HQ1 := Lib.hid (HQ0.out.below hb)
        clear hb
        go_wp2_with fail
        go_ret
        exact ⟨rfl, HB1.out⟩
      | true =>
        rw [Bool.true_and]
        cases vL with
        | false =>
          rw [Bool.false_and]
          clear CR
          go_enter Tryz.func44, Tryz.ntmps44
          go_wp2_with fail
          refine (CA.out _ HB0.out).mono ?_
          rintro r w1 ⟨rfl, hb⟩
          have HB1 : Hid (Below w.heap.size w w1) := HB0.out.trans (hb.mono HB0.out.size)
          have HP1 := Lib.hid (HP0.out.below hb)
          have HQ1 := Lib.hid (HQ0.out.below hb)
          clear hb
          have p4 := HP1.out.cell 4
          have p5 := HP1.out.cell 5
          have p6 := HP1.out.cell 6
          have p7 := HP1.out.cell 7
          have p8 := HP1.out.cell 8
          have p9 := HP1.out.cell 9
          simp only [List.getElem?_cons_zero, List.getElem?_cons_succ] at p4 p5 p6 p7 p8 p9
          have q4 := HQ1.out.cell 4
          have q5 := HQ1.out.cell 5
          have q6 := HQ1.out.cell 6
          have q7 := HQ1.out.cell 7
          have q8 := HQ1.out.cell 8
          have q9 := HQ1.out.cell 9
          simp only [List.getElem?_cons_zero, List.getElem?_cons_succ] at q4 q5 q6 q7 q8 q9
          go_wp2_with fail
          refine (CL.out _ HB1.out).mono ?_
          rintro r w2 ⟨rfl, hb⟩
          have HB2 : Hid (Below w.heap.size w w2) := HB1.out.trans (hb.mono HB1.out.size)
          have HP2 := Lib.hid (HP1.out.below hb)
          have HQ2 := Lib.hid (HQ1.out.below hb)
          clear hb p4 p5 p6 p7 p8 p9 q4 q5 q6 q7 q8 q9
          go_wp2_with fail
          go_ret
          exact ⟨rfl, HB2.out⟩
        | true =>
          rw [Bool.true_and]
          go_enter Tryz.func44, Tryz.ntmps44
          go_wp2_with fail
          refine (CA.out _ HB0.out).mono ?_
          rintro r w1 ⟨rfl, hb⟩
          have HB1 : Hid (Below w.heap.size w w1) := HB0.out.trans (hb.mono HB0.out.size)
          have HP1 := Lib.hid (HP0.out.below hb)
          have HQ1 := Lib.hid (HQ0.out.below hb)
          clear hb
          have p4 := HP1.out.cell 4
          have p5 := HP1.out.cell 5
          have p6 := HP1.out.cell 6
          have p7 := HP1.out.cell 7
          have p8 := HP1.out.cell 8
          have p9 := HP1.out.cell 9
          simp only [List.getElem?_cons_zero, List.getElem?_cons_succ] at p4 p5 p6 p7 p8 p9
          have q4 := HQ1.out.cell 4
          have q5 := HQ1.out.cell 5
          have q6 := HQ1.out.cell 6
          have q7 := HQ1.out.cell 7
          have q8 := HQ1.out.cell 8
          have q9 := HQ1.out.cell 9
          simp only [List.getElem?_cons_zero, List.getElem?_cons_succ] at q4 q5 q6 q7 q8 q9
          go_wp2_with fail
          refine (CL.out _ HB1.out).mono ?_
          rintro r w2 ⟨rfl, hb⟩
          have HB2 : Hid (Below w.heap.size w w2) := HB1.out.trans (hb.mono HB1.out.size)
          have HP2 := Lib.hid (HP1.out.below hb)
          have HQ2 := Lib.hid (HQ1.out.below hb)
          clear hb p4 p5 p6 p7 p8 p9 q4 q5 q6 q7 q8 q9
          have p10 := HP2.out.cell 10
          have p11 := HP2.out.cell 11
          have p12 := HP2.out.cell 12
          have p13 := HP2.out.cell 13
          have p14 := HP2.out.cell 14
          have p15 := HP2.out.cell 15
          simp only [List.getElem?_cons_zero, List.getElem?_cons_succ] at p10 p11 p12 p13 p14 p15
          have q10 := HQ2.out.cell 10
          have q11 := HQ2.out.cell 11
          have q12 := HQ2.out.cell 12
          have q13 := HQ2.out.cell 13
          have q14 := HQ2.out.cell 14
          have q15 := HQ2.out.cell 15
          simp only [List.getElem?_cons_zero, List.getElem?_cons_succ] at q10 q11 q12 q13 q14 q15
          go_wp2_with fail
          refine (CR.out _ HB2.out).mono ?_
          rintro r w3 ⟨rfl, hb⟩
          have HB3 : Hid (Below w.heap.size w w3) := HB2.out.trans (hb.mono HB2.out.size)
          have HP3 := Lib.hid (HP2.out.below hb)
          have HQ3 := Lib.hid (HQ2.out.below hb)
          clear hb p10 p11 p12 p13 p14 p15 q10 q11 q12 q13 q14 q15
          go_wp2_with fail
          go_ret
          exact ⟨rfl, HB3.out⟩
end Go.Proofs.YtolnikpihedmbaaGreatDoor
