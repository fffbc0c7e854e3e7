/- The law's own measure: rules and programs. Conditions: texts of at most 2^47 bytes. -/
import Derived.Test.YtikohamfnnlhcaaGreatDoorPcTermC
set_option linter.unusedVariables false
set_option linter.unusedSimpArgs false
namespace Go.Proofs.YtikohamfnnlhcaaGreatDoor
open Go.RowKit Go.Deep Go.Shelf

theorem leftAm_lo (a : TAm) (l m : Int) (h : a.rel.size ≤ 140737488351232) (h1 : m ≤ l) (h2 : m ≤ 0) : m - 8796093022208 ≤ leftAm a l := by
  unfold leftAm
  exact leftTs_lo _ _ _ (by omega) (by omega)
theorem leftAm_up (a : TAm) (l m : Int) (h1 : l ≤ m) (h2 : 0 ≤ m) : leftAm a l ≤ m := by
  unfold leftAm
  exact leftTs_up _ _ _ (by omega) (by omega)
theorem box17 {w8 X Y : World} {b : Nat} {v0 v1 v2 v3 v4 v5 v6 v7 v8 v9 v10 v11 v12 v13 : Value}
    (h : X.cell? ⟨b, 1, none⟩ = some v0 ∧ X.cell? ⟨b, 2, none⟩ = some v1 ∧ X.cell? ⟨b, 4, none⟩ = some v2 ∧ X.cell? ⟨b, 5, none⟩ = some v3 ∧ X.cell? ⟨b, 6, none⟩ = some v4 ∧ X.cell? ⟨b, 7, none⟩ = some v5 ∧ X.cell? ⟨b, 8, none⟩ = some v6 ∧ X.cell? ⟨b, 9, none⟩ = some v7 ∧
      X.cell? ⟨b, 10, none⟩ = some v8 ∧ X.cell? ⟨b, 11, none⟩ = some v9 ∧ X.cell? ⟨b, 12, none⟩ = some v10 ∧ X.cell? ⟨b, 13, none⟩ = some v11 ∧ X.cell? ⟨b, 14, none⟩ = some v12 ∧ X.cell? ⟨b, 15, none⟩ = some v13 ∧ b < X.heap.size ∧ Below w8.heap.size w8 X)
    (hb : Below X.heap.size X Y) :
    Y.cell? ⟨b, 1, none⟩ = some v0 ∧ Y.cell? ⟨b, 2, none⟩ = some v1 ∧ Y.cell? ⟨b, 4, none⟩ = some v2 ∧ Y.cell? ⟨b, 5, none⟩ = some v3 ∧ Y.cell? ⟨b, 6, none⟩ = some v4 ∧ Y.cell? ⟨b, 7, none⟩ = some v5 ∧ Y.cell? ⟨b, 8, none⟩ = some v6 ∧ Y.cell? ⟨b, 9, none⟩ = some v7 ∧
      Y.cell? ⟨b, 10, none⟩ = some v8 ∧ Y.cell? ⟨b, 11, none⟩ = some v9 ∧ Y.cell? ⟨b, 12, none⟩ = some v10 ∧ Y.cell? ⟨b, 13, none⟩ = some v11 ∧ Y.cell? ⟨b, 14, none⟩ = some v12 ∧ Y.cell? ⟨b, 15, none⟩ = some v13 ∧ b < Y.heap.size ∧ Below w8.heap.size w8 Y := by
  obtain ⟨h0, h1, h2, h3, h4, h5, h6, h7, h8, h9, h10, h11, h12, h13, hl, hw⟩ := h
  have k : ∀ i v, X.cell? ⟨b, i, none⟩ = some v → Y.cell? ⟨b, i, none⟩ = some v := fun i v h => (hb.cell (p := ⟨b, i, none⟩) hl).trans h
  exact ⟨k _ _ h0, k _ _ h1, k _ _ h2, k _ _ h3, k _ _ h4, k _ _ h5, k _ _ h6, k _ _ h7, k _ _ h8, k _ _ h9, k _ _ h10, k _ _ h11, k _ _ h12, k _ _ h13, Nat.lt_of_lt_of_le hl hb.size, hw.trans (hb.mono hw.size)⟩
theorem box17_low {w8 X : World} {b : Nat} {v0 v1 v2 v3 v4 v5 v6 v7 v8 v9 v10 v11 v12 v13 : Value}
    (h : X.cell? ⟨b, 1, none⟩ = some v0 ∧ X.cell? ⟨b, 2, none⟩ = some v1 ∧ X.cell? ⟨b, 4, none⟩ = some v2 ∧ X.cell? ⟨b, 5, none⟩ = some v3 ∧ X.cell? ⟨b, 6, none⟩ = some v4 ∧ X.cell? ⟨b, 7, none⟩ = some v5 ∧ X.cell? ⟨b, 8, none⟩ = some v6 ∧ X.cell? ⟨b, 9, none⟩ = some v7 ∧
      X.cell? ⟨b, 10, none⟩ = some v8 ∧ X.cell? ⟨b, 11, none⟩ = some v9 ∧ X.cell? ⟨b, 12, none⟩ = some v10 ∧ X.cell? ⟨b, 13, none⟩ = some v11 ∧ X.cell? ⟨b, 14, none⟩ = some v12 ∧ X.cell? ⟨b, 15, none⟩ = some v13 ∧ b < X.heap.size ∧ Below w8.heap.size w8 X) : Below w8.heap.size w8 X := by
  obtain ⟨h0, h1, h2, h3, h4, h5, h6, h7, h8, h9, h10, h11, h12, h13, hl, hw⟩ := h
  exact hw

set_option maxRecDepth 100000 in
set_option maxHeartbeats 1000000 in
theorem Rule_any (r : TRu) (A : Option Addr) (c : Nat) (B : Option Addr) (d : Nat) (l : Int) (w : World) (hV : RuV w r A B) (hl1 : -4000000000000000000 ≤ l) (hl2 : l ≤ 4000000000000000000) :
    Calls Tryz.prog 14 #[ruV r A c B d, .int .i64 l] w fun r1 w' => r1 = .returned (.int .i64 (leftRu r l)) ∧ Below w.heap.size w w' := by
  have HV := Lib.hid hV
  have hlen := hV.row.1
  have HE : Hid (leftB r.body (leftAm r.head l) = leftRu r l) := rfl
  have hx1 := leftAm_lo r.head l (-4000000000000000000) hV.am.ok hl1 (by omega)
  have hx2 := leftAm_up r.head l 4000000000000000000 hl2 (by omega)
  clear hV
  unfold ruV
  go_enter Tryz.func14, Tryz.ntmps14
  go_wp2_with fail
  refine (atom_any r.head A c l _ (HV.out.am.below ((Below.refl _ _).alloc (Nat.le_refl _) _)) (by omega) (by omega)).mono ?_
  rintro e w1 ⟨rfl, hb⟩
  have hcb := hb.cell (p := ⟨w.heap.size, 4, none⟩) (by simp)
  have B1 : Hid (Below w.heap.size w w1) := ((Below.refl _ _).alloc (Nat.le_refl _) _).trans (hb.mono (by simp))
  clear hb
  simp only [World.cell?_alloc_new] at hcb
  generalize leftAm r.head l = x0 at hx1 hx2 HE ⊢
  go_wp2_with fail
  go_loopw [1, 14] (fun lv i wr => ∃ (j : Nat) (x : Int), j ≤ r.body.length ∧ i = .int .i64 j ∧ lv = .int .i64 x ∧ -4100000000000000000 ≤ x ∧ x ≤ 4000000000000000000 ∧ Hid (leftB (r.body.drop j) x = leftRu r l) ∧ Hid (Below w.heap.size w wr)) (fun _ i _ => r.body.length - (intOf i).toNat)
  case atStart => exact ⟨0, x0, Nat.zero_le _, rfl, rfl, by omega, hx2, HE, B1⟩
  case round =>
    obtain ⟨j, x, hj, rfl, rfl, h1, h2, HX, HB⟩ := hrel
    by_cases hlt : j < r.body.length
    · obtain ⟨b1, o, rfl, hbw, hc⟩ := HV.out.row.at_ hlt
      have hc := hc.pers (Pers.of HB.out)
      obtain ⟨AA, ac, L, lc, R, rc, ⟨c0, c1, c2, c3, ⟨c4, c5, c6, c7, c8, c9⟩, ⟨d0, d1, d2, d3, d4, d5⟩, c16⟩, hy⟩ := hc.open_
      have HY := Lib.hid hy
      by_cases h0 : x < 0
      · have HN := Lib.hid ((leftB_neg hlt h0).symm.trans HX.out)
        clear hc hy HX
        generalize r.body[j] = y at *
        go_wp2_with fail
        go_ret
        exact ⟨ret_i64 HN.out, HB.out.alloc HB.out.size _⟩
      · have HN := Lib.hid ((leftB_step hlt h0).symm.trans HX.out)
        have ha1 := leftAm_lo r.body[j].atom x 0 hy.am.ok (by omega) (by omega)
        have ha2 := leftAm_up r.body[j].atom x 4000000000000000000 h2 (by omega)
        have hl1 := leftE_lo r.body[j].left (leftAm r.body[j].atom x) (-8796093022208) hy.left.okE (by omega) (by omega)
        have hl2 := leftE_up r.body[j].left (leftAm r.body[j].atom x) 4000000000000000000 ha2 (by omega)
        have hr1 := leftE_lo r.body[j].right (leftE r.body[j].left (leftAm r.body[j].atom x)) (-17592186044416) hy.right.okE (by omega) (by omega)
        have hr2 := leftE_up r.body[j].right (leftE r.body[j].left (leftAm r.body[j].atom x)) 4000000000000000000 hl2 (by omega)
        clear hc hy HX
        generalize r.body[j] = y at *
        have C1 : Hid (∀ W, Below wr.heap.size wr W → Calls Tryz.prog 43 #[amV y.atom AA ac, .int .i64 x] W fun r w' => r = .returned (.int .i64 (leftAm y.atom x)) ∧ Below W.heap.size W w') :=
          fun W hb => atom_any y.atom AA ac x W (HY.out.am.below hb) (by omega) (by omega)
        have C2 : Hid (∀ W, Below wr.heap.size wr W → Calls Tryz.prog 44 #[exV y.left L lc, .int .i64 (leftAm y.atom x)] W fun r w' => r = .returned (.int .i64 (leftE y.left (leftAm y.atom x))) ∧ Below W.heap.size W w') :=
          fun W hb => exp_any _ y.left L lc _ W (Nat.le_refl _) (HY.out.left.below hb) (by omega) (by omega)
        have C3 : Hid (∀ W, Below wr.heap.size wr W → Calls Tryz.prog 44 #[exV y.right R rc, .int .i64 (leftE y.left (leftAm y.atom x))] W fun r w' => r = .returned (.int .i64 (leftE y.right (leftE y.left (leftAm y.atom x)))) ∧ Below W.heap.size W w') :=
          fun W hb => exp_any _ y.right R rc _ W (Nat.le_refl _) (HY.out.right.below hb) (by omega) (by omega)
        have hx1' : -4100000000000000000 ≤ leftE y.right (leftE y.left (leftAm y.atom x)) := by omega
        clear ha1 ha2 hl1 hl2 hr1
        generalize leftE y.right (leftE y.left (leftAm y.atom x)) = z3 at *
        generalize leftE y.left (leftAm y.atom x) = z2 at *
        generalize leftAm y.atom x = z1 at *
        unfold amV at C1
        unfold exV at C2 C3
        have mixed : Tryz.prog.follows .mixedOrders = true := by kernel_rfl
        go_wp2_with fail
        have hO : Own (wr.alloc (.cells #[.int .i64 y.kind, .string y.atom.rel, .slice AA y.atom.args.length ac, .int .i64 y.op, .int .i64 y.left.op, .string y.left.t.v, .int .i64 y.left.t.k, .int .i64 y.left.t.n, .string y.left.t.s, .slice L y.left.kids.length lc, .int .i64 y.right.op, .string y.right.t.v, .int .i64 y.right.t.k, .int .i64 y.right.t.n, .string y.right.t.s, .slice R y.right.kids.length rc, .int .i64 y.pos] 63)) wr.heap.size 63 [.int .i64 y.kind, .string y.atom.rel, .slice AA y.atom.args.length ac, .int .i64 y.op, .int .i64 y.left.op, .string y.left.t.v, .int .i64 y.left.t.k, .int .i64 y.left.t.n, .string y.left.t.s, .slice L y.left.kids.length lc, .int .i64 y.right.op, .string y.right.t.v, .int .i64 y.right.t.k, .int .i64 y.right.t.n, .string y.right.t.s, .slice R y.right.kids.length rc, .int .i64 y.pos] := heap_alloc_new _ _
        have hbW : Below wr.heap.size wr (wr.alloc (.cells #[.int .i64 y.kind, .string y.atom.rel, .slice AA y.atom.args.length ac, .int .i64 y.op, .int .i64 y.left.op, .string y.left.t.v, .int .i64 y.left.t.k, .int .i64 y.left.t.n, .string y.left.t.s, .slice L y.left.kids.length lc, .int .i64 y.right.op, .string y.right.t.v, .int .i64 y.right.t.k, .int .i64 y.right.t.n, .string y.right.t.s, .slice R y.right.kids.length rc, .int .i64 y.pos] 63)) := (Below.refl _ _).alloc (Nat.le_refl _) _
        obtain ⟨W0, hW0⟩ : ∃ W0, W0 = wr.alloc (.cells #[.int .i64 y.kind, .string y.atom.rel, .slice AA y.atom.args.length ac, .int .i64 y.op, .int .i64 y.left.op, .string y.left.t.v, .int .i64 y.left.t.k, .int .i64 y.left.t.n, .string y.left.t.s, .slice L y.left.kids.length lc, .int .i64 y.right.op, .string y.right.t.v, .int .i64 y.right.t.k, .int .i64 y.right.t.n, .string y.right.t.s, .slice R y.right.kids.length rc, .int .i64 y.pos] 63) := ⟨_, rfl⟩
        rw [← hW0] at hO hbW ⊢
        clear hW0
        obtain ⟨b, hb⟩ : ∃ b, b = wr.heap.size := ⟨_, rfl⟩
        rw [← hb] at hO ⊢
        clear hb
        have hS : W0.cell? ⟨b, 1, none⟩ = some (.string y.atom.rel) ∧ W0.cell? ⟨b, 2, none⟩ = some (.slice AA y.atom.args.length ac) ∧ W0.cell? ⟨b, 4, none⟩ = some (.int .i64 y.left.op) ∧ W0.cell? ⟨b, 5, none⟩ = some (.string y.left.t.v) ∧ W0.cell? ⟨b, 6, none⟩ = some (.int .i64 y.left.t.k) ∧ W0.cell? ⟨b, 7, none⟩ = some (.int .i64 y.left.t.n) ∧ W0.cell? ⟨b, 8, none⟩ = some (.string y.left.t.s) ∧ W0.cell? ⟨b, 9, none⟩ = some (.slice L y.left.kids.length lc) ∧ W0.cell? ⟨b, 10, none⟩ = some (.int .i64 y.right.op) ∧ W0.cell? ⟨b, 11, none⟩ = some (.string y.right.t.v) ∧ W0.cell? ⟨b, 12, none⟩ = some (.int .i64 y.right.t.k) ∧ W0.cell? ⟨b, 13, none⟩ = some (.int .i64 y.right.t.n) ∧ W0.cell? ⟨b, 14, none⟩ = some (.string y.right.t.s) ∧ W0.cell? ⟨b, 15, none⟩ = some (.slice R y.right.kids.length rc) ∧ b < W0.heap.size ∧  Below wr.heap.size wr W0 :=
          ⟨hO.cell 1, hO.cell 2, hO.cell 4, hO.cell 5, hO.cell 6, hO.cell 7, hO.cell 8, hO.cell 9, hO.cell 10, hO.cell 11, hO.cell 12, hO.cell 13, hO.cell 14, hO.cell 15, hO.lt, hbW⟩
        clear hO hbW c0 c1 c2 c3 c4 c5 c6 c7 c8 c9 d0 d1 d2 d3 d4 d5 c16
        go_region_held3 (fun w' => w'.cell? ⟨b, 1, none⟩ = some (.string y.atom.rel) ∧ w'.cell? ⟨b, 2, none⟩ = some (.slice AA y.atom.args.length ac) ∧ w'.cell? ⟨b, 4, none⟩ = some (.int .i64 y.left.op) ∧ w'.cell? ⟨b, 5, none⟩ = some (.string y.left.t.v) ∧ w'.cell? ⟨b, 6, none⟩ = some (.int .i64 y.left.t.k) ∧ w'.cell? ⟨b, 7, none⟩ = some (.int .i64 y.left.t.n) ∧ w'.cell? ⟨b, 8, none⟩ = some (.string y.left.t.s) ∧ w'.cell? ⟨b, 9, none⟩ = some (.slice L y.left.kids.length lc) ∧ w'.cell? ⟨b, 10, none⟩ = some (.int .i64 y.right.op) ∧ w'.cell? ⟨b, 11, none⟩ = some (.string y.right.t.v) ∧ w'.cell? ⟨b, 12, none⟩ = some (.int .i64 y.right.t.k) ∧ w'.cell? ⟨b, 13, none⟩ = some (.int .i64 y.right.t.n) ∧ w'.cell? ⟨b, 14, none⟩ = some (.string y.right.t.s) ∧ w'.cell? ⟨b, 15, none⟩ = some (.slice R y.right.kids.length rc) ∧ b < w'.heap.size ∧ Below wr.heap.size wr w')
          (first | (with_reducible assumption) | (with_reducible exact box17 (by assumption) (Below.refl _ _).drew) | (with_reducible exact box17 (by assumption) hb1) | go_keep)
          (first
            | (go_at_call 43; refine (C1.out _ ?_).mono ?_; exact box17_low (by assumption); rintro e w' ⟨rfl, hb1⟩)
            | (go_at_call 44; first | ((with_reducible refine (C2.out _ ?_).mono ?_); exact box17_low (by assumption); rintro e w' ⟨rfl, hb1⟩) | ((with_reducible refine (C3.out _ ?_).mono ?_); exact box17_low (by assumption); rintro e w' ⟨rfl, hb1⟩)))
        all_goals
          have HB' : Hid (Below w.heap.size w _) := HB.out.trans ((box17_low (by assumption)).mono HB.out.size)
          go_wp2_with fail
          go_roundw
          case rel => exact ⟨j + 1, z3, by omega, by go_num, rfl, hx1', hr2, HN, HB'⟩
          case measure => simp [intOf]; omega
    · have HN := Lib.hid ((leftB_end hlt).symm.trans HX.out)
      clear HX
      go_wp2_with fail
      go_ret
      exact ⟨ret_i64 HN.out, HB.out⟩
end Go.Proofs.YtikohamfnnlhcaaGreatDoor
