/- The law's own measure: how much of a size is left. Conditions: texts of at most 2^47 bytes. The law's own measure: rules and programs. Conditions: texts of at most 2^47 bytes. The law's measure of a program. Conditions: texts of at most 2^47 bytes. The law's copy of a rule in the document's form. Conditions: at most 30,000 nodes, terms and literals. The law's copy of a program in the document's form. Conditions: at most 30,000 of everything. -/
import Derived.Test.YtlfakhjcpdkaiaaGreatDoorTermB
import Derived.Deep.RegionHeld3
import Derived.Test.YtlfakhjcpdkaiaaGreatDoorTermSz
set_option linter.unusedVariables false
set_option linter.unusedSimpArgs false
namespace Go.Proofs.YtlfakhjcpdkaiaaGreatDoor
open Go.RowKit Go.Deep Go.Shelf

set_option maxRecDepth 100000 in
set_option maxHeartbeats 400000 in
theorem exp_any (n : Nat) : ∀ (e : TEx) (A : Option Addr) (c : Nat) (l : Int) (w : World), cntE e ≤ n → ExV w e A → -4611686018427387904 ≤ l → l ≤ 4611686018427387904 →
    Calls Tryz.prog 37 #[exV e A c, .int .i64 l] w fun r w' => r = .returned (.int .i64 (leftE e l)) ∧ Below w.heap.size w w' := by
  induction n with
  | zero => intro e _ _ _ _ h; have := cntE_pos e; omega
  | succ n ih =>
    intro e A c l w hn hV hl1 hl2
    have HV := Lib.hid hV
    have hlen := hV.row.1
    have hv1 := hV.ok.1
    have hv2 := hV.ok.2
    have htc := tcost_le hV.ok
    have htp := tcost_pos e.t
    have htc' : tcost e.t = 1 + ((e.t.v.size : Int) + (e.t.s.size : Int)) / 50 := rfl
    have HO := Lib.hid hV.okE
    have HE := Lib.hid (leftE_eq e l)
    have HK : Hid (∀ k (hk : k < e.kids.length), cntE e.kids[k] ≤ n) := fun k hk => by have := cntE_kid hk; omega
    have hx1 : -4611694814520410112 ≤ l - (1 + ((e.t.v.size : Int) + (e.t.s.size : Int)) / 50) := by omega
    have hx2 : l - (1 + ((e.t.v.size : Int) + (e.t.s.size : Int)) / 50) ≤ 4611686018427387904 := by omega
    have HT := Lib.hid htc'
    clear hV htc htp htc' hn
    unfold exV
    go_enter Tryz.func37, Tryz.ntmps37
    go_wp2_with fail
    go_loopw [1, 24] (fun lv i wr => ∃ (j : Nat) (x : Int), j ≤ e.kids.length ∧ i = .int .i64 j ∧ lv = .int .i64 x ∧ -4611694814520410112 ≤ x ∧ x ≤ 4611686018427387904 ∧ Hid (leftEs (e.kids.drop j) x = leftE e l) ∧ Hid (Below w.heap.size w wr)) (fun _ i _ => e.kids.length - (intOf i).toNat)
    case atStart =>
      exact ⟨0, _, Nat.zero_le _, rfl, rfl, hx1, hx2, (by rw [HE.out, HT.out, List.drop_zero]; exact Lib.hid rfl), Lib.hid ((Below.refl _ _).alloc (Nat.le_refl _) _)⟩
    case round =>
      obtain ⟨j, x, hj, rfl, rfl, h1, h2, HX, HB⟩ := hrel
      by_cases hlt : j < e.kids.length
      · obtain ⟨b, o, rfl, hbw, hc⟩ := HV.out.row.at_ hlt
        have hc := hc.pers (Pers.of HB.out)
        obtain ⟨A', c', c0, c1, c2, c3, c4, c5, hkv⟩ := hc.open_
        have HKV := Lib.hid hkv
        have hki := HK.out j hlt
        have HOj := Lib.hid (okEs_at hlt (by have h := HO.out; cases e; rw [okE] at h; exact h.2))
        by_cases h0 : x < 0
        · have HN := Lib.hid ((leftEs_neg hlt h0).symm.trans HX.out)
          clear hc hkv HX
          generalize e.kids[j] = y at *
          go_wp2_with fail
          go_ret
          exact ⟨ret_i64 HN.out, HB.out.alloc HB.out.size _⟩
        · have HN := Lib.hid ((leftEs_step hlt h0).symm.trans HX.out)
          have HLo := Lib.hid (leftE_lo e.kids[j] x 0 HOj.out (by omega) (by omega))
          have HUp := Lib.hid (leftE_up e.kids[j] x 4611686018427387904 (by omega) (by omega))
          clear hc hkv HX HOj
          generalize e.kids[j] = y at *
          go_wp2_with fail
          refine (ih y A' c' x _ hki (HKV.out.below ((Below.refl _ _).alloc (Nat.le_refl _) _)) (by omega) (by omega)).mono ?_
          rintro r w' ⟨rfl, hb⟩
          have HB' := Lib.hid ((HB.out.alloc HB.out.size _).trans (hb.mono (by simp; exact Nat.le_trans HB.out.size (Nat.le_succ _))))
          clear hb
          have hlo := HLo.out
          have hup := HUp.out
          go_wp2_with fail
          go_roundw
          case rel => exact ⟨j + 1, _, by omega, by go_num, rfl, by omega, by omega, HN, HB'⟩
          case measure => simp [intOf]; omega
      · have HN := Lib.hid ((leftEs_end hlt).symm.trans HX.out)
        clear HX
        go_wp2_with fail
        go_ret
        exact ⟨ret_i64 HN.out, HB.out⟩

set_option maxRecDepth 100000 in
set_option maxHeartbeats 400000 in
theorem atom_any (a : TAm) (A : Option Addr) (c : Nat) (l : Int) (w : World) (hV : AmV w a A) (hl1 : -4611686018427387904 ≤ l) (hl2 : l ≤ 4611686018427387904) :
    Calls Tryz.prog 36 #[amV a A c, .int .i64 l] w fun r w' => r = .returned (.int .i64 (leftAm a l)) ∧ Below w.heap.size w w' := by
  have HV := Lib.hid hV
  have hlen := hV.row.1
  have hv1 := hV.ok
  have HE : Hid (leftTs a.args (l - (1 + (a.rel.size : Int) / 50)) = leftAm a l) := rfl
  have hx1 : -4611694814520410112 ≤ l - (1 + (a.rel.size : Int) / 50) := by omega
  have hx2 : l - (1 + (a.rel.size : Int) / 50) ≤ 4611686018427387904 := by omega
  clear hV
  unfold amV
  go_enter Tryz.func36, Tryz.ntmps36
  go_wp2_with fail
  go_loopw [1, 17] (fun lv i wr => ∃ (j : Nat) (x : Int), j ≤ a.args.length ∧ i = .int .i64 j ∧ lv = .int .i64 x ∧ -4611694814520410112 ≤ x ∧ x ≤ 4611686018427387904 ∧ Hid (leftTs (a.args.drop j) x = leftAm a l) ∧ Hid (Below w.heap.size w wr)) (fun _ i _ => a.args.length - (intOf i).toNat)
  case atStart =>
    exact ⟨0, _, Nat.zero_le _, rfl, rfl, hx1, hx2, HE, Lib.hid ((Below.refl _ _).alloc (Nat.le_refl _) _)⟩
  case round =>
    obtain ⟨j, x, hj, rfl, rfl, h1, h2, HX, HB⟩ := hrel
    by_cases hlt : j < a.args.length
    · obtain ⟨b, o, rfl, hbw, hc⟩ := HV.out.row.at_ hlt
      have hc := hc.pers (Pers.of HB.out)
      obtain ⟨c0, c1, c2, c3, ht1, ht2⟩ := hc
      have ht := tcost_pos a.args[j]
      have hm := tcost_le ⟨ht1, ht2⟩
      by_cases h0 : x - tcost a.args[j] < 0
      · have HN := Lib.hid ((leftTs_neg hlt h0).symm.trans HX.out)
        clear HX
        generalize a.args[j] = y at *
        have hy : x - (1 + ((y.v.size : Int) + (y.s.size : Int)) / 50) < 0 := h0
        have hy1 : -4611720000000000000 ≤ x - (1 + ((y.v.size : Int) + (y.s.size : Int)) / 50) := by unfold tcost at hm; omega
        clear h0 hm ht
        go_wp2_with fail
        go_ret
        exact ⟨ret_i64 HN.out, HB.out.alloc HB.out.size _⟩
      · have HN := Lib.hid ((leftTs_step hlt h0).symm.trans HX.out)
        clear HX
        generalize a.args[j] = y at *
        have hy : ¬ x - (1 + ((y.v.size : Int) + (y.s.size : Int)) / 50) < 0 := h0
        have hy2 : x - (1 + ((y.v.size : Int) + (y.s.size : Int)) / 50) ≤ 4611686018427387904 := by unfold tcost at ht; omega
        clear h0 hm ht
        go_wp2_with fail
        go_roundw
        case rel => exact ⟨j + 1, _, by omega, by go_num, rfl, by omega, by omega, HN, Lib.hid (HB.out.alloc HB.out.size _)⟩
        case measure => simp [intOf]; omega
    · have HN := Lib.hid ((leftTs_end hlt).symm.trans HX.out)
      clear HX
      go_wp2_with fail
      go_ret
      exact ⟨ret_i64 HN.out, HB.out⟩
end Go.Proofs.YtlfakhjcpdkaiaaGreatDoor

set_option linter.unusedVariables false
set_option linter.unusedSimpArgs false
namespace Go.Proofs.YtlfakhjcpdkaiaaGreatDoor
open Go.RowKit Go.Deep Go.Shelf

theorem leftAm_lo (a : TAm) (l m : Int) (h : a.rel.size ≤ 140737488351232) (h1 : m ≤ l) (h2 : m ≤ 0) : m - 8796093022208 ≤ leftAm a l := by
  unfold leftAm
  exact leftTs_lo _ _ _ (by omega) (by omega)
theorem leftAm_up (a : TAm) (l m : Int) (h1 : l ≤ m) (h2 : 0 ≤ m) : leftAm a l ≤ m := by
  unfold leftAm
  exact leftTs_up _ _ _ (by omega) (by omega)
theorem box17 {w8 X Y : World} {b : Nat} {v0 v1 v2 v3 v4 v5 v6 v7 v8 v9 v10 v11 v12 v13 : Value}
    (h : X.cell? ⟨b, 1, none⟩ = some v0 ∧ X.cell? ⟨b, 2, none⟩ = some v1 ∧ X.cell? ⟨b, 4, none⟩ = some v2 ∧ X.cell? ⟨b, 5, none⟩ = some v3 ∧ X.cell? ⟨b, 6, none⟩ = some v4 ∧ X.cell? ⟨b, 7, none⟩ = some v5 ∧ X.cell? ⟨b, 8, none⟩ = some v6 ∧ X.cell? ⟨b, 9, none⟩ = some v7 ∧
      X.cell? ⟨b, 10, none⟩ = some v8 ∧ X.cell? ⟨b, 11, none⟩ = some v9 ∧ X.cell? ⟨b, 12, none⟩ = some v10 ∧ X.cell? ⟨b, 13, none⟩ = some v11 ∧ X.cell? ⟨b, 14, none⟩ = some v12 ∧ X.cell? ⟨b, 15, none⟩ = some v13 ∧ b < X.heap.size ∧ Below w8.heap.size w8 X)
    (hb : Below X.heap.size X Y) :
    Y.cell? ⟨b, 1, none⟩ = some v0 ∧ Y.cell? ⟨b, 2, none⟩ = some v1 ∧ Y.cell? ⟨b, 4, none⟩ = some v2 ∧ Y.cell? ⟨b, 5, none⟩ = some v3 ∧ Y.cell? ⟨b, 6, none⟩ = some v4 ∧ Y.cell? ⟨b, 7, none⟩ = some v5 ∧ Y.cell? ⟨b, 8, none⟩ = some v6 ∧ Y.cell? ⟨b, 9, none⟩ = some v7 ∧
      Y.cell? ⟨b, 10, none⟩ = some v8 ∧ Y.cell? ⟨b, 11, none⟩ = some v9 ∧ Y.cell? ⟨b, 12, none⟩ = some v10 ∧ Y.cell? ⟨b, 13, none⟩ = some v11 ∧ Y.cell? ⟨b, 14, none⟩ = some v12 ∧ Y.cell? ⟨b, 15, none⟩ = some v13 ∧ b < Y.heap.size ∧ Below w8.heap.size w8 Y := by
  obtain ⟨h0, h1, h2, h3, h4, h5, h6, h7, h8, h9, h10, h11, h12, h13, hl, hw⟩ := h
  have k : ∀ i v, X.cell? ⟨b, i, none⟩ = some v → Y.cell? ⟨b, i, none⟩ = some v := fun i v h => (hb.cell (p := ⟨b, i, none⟩) hl).trans h
  exact ⟨k _ _ h0, k _ _ h1, k _ _ h2, k _ _ h3, k _ _ h4, k _ _ h5, k _ _ h6, k _ _ h7, k _ _ h8, k _ _ h9, k _ _ h10, k _ _ h11, k _ _ h12, k _ _ h13, Nat.lt_of_lt_of_le hl hb.size, hw.trans (hb.mono hw.size)⟩
theorem box17_low {w8 X : World} {b : Nat} {v0 v1 v2 v3 v4 v5 v6 v7 v8 v9 v10 v11 v12 v13 : Value}
    (h : X.cell? ⟨b, 1, none⟩ = some v0 ∧ X.cell? ⟨b, 2, none⟩ = some v1 ∧ X.cell? ⟨b, 4, none⟩ = some v2 ∧ X.cell? ⟨b, 5, none⟩ = some v3 ∧ X.cell? ⟨b, 6, none⟩ = some v4 ∧ X.cell? ⟨b, 7, none⟩ = some v5 ∧ X.cell? ⟨b, 8, none⟩ = some v6 ∧ X.cell? ⟨b, 9, none⟩ = some v7 ∧
      X.cell? ⟨b, 10, none⟩ = some v8 ∧ X.cell? ⟨b, 11, none⟩ = some v9 ∧ X.cell? ⟨b, 12, none⟩ = some v10 ∧ X.cell? ⟨b, 13, none⟩ = some v11 ∧ X.cell? ⟨b, 14, none⟩ = some v12 ∧ X.cell? ⟨b, 15, none⟩ = some v13 ∧ b < X.heap.size ∧ Below w8.heap.size w8 X) : Below w8.heap.size w8 X := by
  obtain ⟨h0, h1, h2, h3, h4, h5, h6, h7, h8, h9, h10, h11, h12, h13, hl, hw⟩ := h
  exact hw

set_option maxRecDepth 100000 in
set_option maxHeartbeats 1000000 in
theorem Rule_any (r : TRu) (A : Option Addr) (c : Nat) (B : Option Addr) (d : Nat) (l : Int) (w : World) (hV : RuV w r A B) (hl1 : -4000000000000000000 ≤ l) (hl2 : l ≤ 4000000000000000000) :
    Calls Tryz.prog 16 #[ruV r A c B d, .int .i64 l] w fun r1 w' => r1 = .returned (.int .i64 (leftRu r l)) ∧ Below w.heap.size w w' := by
  have HV := Lib.hid hV
  have hlen := hV.row.1
  have HE : Hid (leftB r.body (leftAm r.head l) = leftRu r l) := rfl
  have hx1 := leftAm_lo r.head l (-4000000000000000000) hV.am.ok hl1 (by omega)
  have hx2 := leftAm_up r.head l 4000000000000000000 hl2 (by omega)
  clear hV
  unfold ruV
  go_enter Tryz.func16, Tryz.ntmps16
  go_wp2_with fail
  refine (atom_any r.head A c l _ (HV.out.am.below ((Below.refl _ _).alloc (Nat.le_refl _) _)) (by omega) (by omega)).mono ?_
  rintro e w1 ⟨rfl, hb⟩
  have hcb := hb.cell (p := ⟨w.heap.size, 4, none⟩) (by simp)
  have B1 : Hid (Below w.heap.size w w1) := ((Below.refl _ _).alloc (Nat.le_refl _) _).trans (hb.mono (by simp))
  clear hb
  simp only [World.cell?_alloc_new] at hcb
  generalize leftAm r.head l = x0 at hx1 hx2 HE ⊢
  go_wp2_with fail
  go_loopw [1, 14] (fun lv i wr => ∃ (j : Nat) (x : Int), j ≤ r.body.length ∧ i = .int .i64 j ∧ lv = .int .i64 x ∧ -4100000000000000000 ≤ x ∧ x ≤ 4000000000000000000 ∧ Hid (leftB (r.body.drop j) x = leftRu r l) ∧ Hid (Below w.heap.size w wr)) (fun _ i _ => r.body.length - (intOf i).toNat)
  case atStart => exact ⟨0, x0, Nat.zero_le _, rfl, rfl, by omega, hx2, HE, B1⟩
  case round =>
    obtain ⟨j, x, hj, rfl, rfl, h1, h2, HX, HB⟩ := hrel
    by_cases hlt : j < r.body.length
    · obtain ⟨b1, o, rfl, hbw, hc⟩ := HV.out.row.at_ hlt
      have hc := hc.pers (Pers.of HB.out)
      obtain ⟨AA, ac, L, lc, R, rc, ⟨c0, c1, c2, c3, ⟨c4, c5, c6, c7, c8, c9⟩, ⟨d0, d1, d2, d3, d4, d5⟩, c16⟩, hy⟩ := hc.open_
      have HY := Lib.hid hy
      by_cases h0 : x < 0
      · have HN := Lib.hid ((leftB_neg hlt h0).symm.trans HX.out)
        clear hc hy HX
        generalize r.body[j] = y at *
        go_wp2_with fail
        go_ret
        exact ⟨ret_i64 HN.out, HB.out.alloc HB.out.size _⟩
      · have HN := Lib.hid ((leftB_step hlt h0).symm.trans HX.out)
        have ha1 := leftAm_lo r.body[j].atom x 0 hy.am.ok (by omega) (by omega)
        have ha2 := leftAm_up r.body[j].atom x 4000000000000000000 h2 (by omega)
        have hl1 := leftE_lo r.body[j].left (leftAm r.body[j].atom x) (-8796093022208) hy.left.okE (by omega) (by omega)
        have hl2 := leftE_up r.body[j].left (leftAm r.body[j].atom x) 4000000000000000000 ha2 (by omega)
        have hr1 := leftE_lo r.body[j].right (leftE r.body[j].left (leftAm r.body[j].atom x)) (-17592186044416) hy.right.okE (by omega) (by omega)
        have hr2 := leftE_up r.body[j].right (leftE r.body[j].left (leftAm r.body[j].atom x)) 4000000000000000000 hl2 (by omega)
        clear hc hy HX
        generalize r.body[j] = y at *
        have C1 : Hid (∀ W, Below wr.heap.size wr W → Calls Tryz.prog 36 #[amV y.atom AA ac, .int .i64 x] W fun r w' => r = .returned (.int .i64 (leftAm y.atom x)) ∧ Below W.heap.size W w') :=
          fun W hb => atom_any y.atom AA ac x W (HY.out.am.below hb) (by omega) (by omega)
        have C2 : Hid (∀ W, Below wr.heap.size wr W → Calls Tryz.prog 37 #[exV y.left L lc, .int .i64 (leftAm y.atom x)] W fun r w' => r = .returned (.int .i64 (leftE y.left (leftAm y.atom x))) ∧ Below W.heap.size W w') :=
          fun W hb => exp_any _ y.left L lc _ W (Nat.le_refl _) (HY.out.left.below hb) (by omega) (by omega)
        have C3 : Hid (∀ W, Below wr.heap.size wr W → Calls Tryz.prog 37 #[exV y.right R rc, .int .i64 (leftE y.left (leftAm y.atom x))] W fun r w' => r = .returned (.int .i64 (leftE y.right (leftE y.left (leftAm y.atom x)))) ∧ Below W.heap.size W w') :=
          fun W hb => exp_any _ y.right R rc _ W (Nat.le_refl _) (HY.out.right.below hb) (by omega) (by omega)
        have hx1' : -4100000000000000000 ≤ leftE y.right (leftE y.left (leftAm y.atom x)) := by omega
        clear ha1 ha2 hl1 hl2 hr1
        generalize leftE y.right (leftE y.left (leftAm y.atom x)) = z3 at *
        generalize leftE y.left (leftAm y.atom x) = z2 at *
        generalize leftAm y.atom x = z1 at *
        unfold amV at C1
        unfold exV at C2 C3
        have mixed : Tryz.prog.follows .mixedOrders = true := by kernel_rfl
        go_wp2_with fail
        have hO : Own (wr.alloc (.cells #[.int .i64 y.kind, .string y.atom.rel, .slice AA y.atom.args.length ac, .int .i64 y.op, .int .i64 y.left.op, .string y.left.t.v, .int .i64 y.left.t.k, .int .i64 y.left.t.n, .string y.left.t.s, .slice L y.left.kids.length lc, .int .i64 y.right.op, .string y.right.t.v, .int .i64 y.right.t.k, .int .i64 y.right.t.n, .string y.right.t.s, .slice R y.right.kids.length rc, .int .i64 y.pos] 50)) wr.heap.size 50 [.int .i64 y.kind, .string y.atom.rel, .slice AA y.atom.args.length ac, .int .i64 y.op, .int .i64 y.left.op, .string y.left.t.v, .int .i64 y.left.t.k, .int .i64 y.left.t.n, .string y.left.t.s, .slice L y.left.kids.length lc, .int .i64 y.right.op, .string y.right.t.v, .int .i64 y.right.t.k, .int .i64 y.right.t.n, .string y.right.t.s, .slice R y.right.kids.length rc, .int .i64 y.pos] := heap_alloc_new _ _
        have hbW : Below wr.heap.size wr (wr.alloc (.cells #[.int .i64 y.kind, .string y.atom.rel, .slice AA y.atom.args.length ac, .int .i64 y.op, .int .i64 y.left.op, .string y.left.t.v, .int .i64 y.left.t.k, .int .i64 y.left.t.n, .string y.left.t.s, .slice L y.left.kids.length lc, .int .i64 y.right.op, .string y.right.t.v, .int .i64 y.right.t.k, .int .i64 y.right.t.n, .string y.right.t.s, .slice R y.right.kids.length rc, .int .i64 y.pos] 50)) := (Below.refl _ _).alloc (Nat.le_refl _) _
        obtain ⟨W0, hW0⟩ : ∃ W0, W0 = wr.alloc (.cells #[.int .i64 y.kind, .string y.atom.rel, .slice AA y.atom.args.length ac, .int .i64 y.op, .int .i64 y.left.op, .string y.left.t.v, .int .i64 y.left.t.k, .int .i64 y.left.t.n, .string y.left.t.s, .slice L y.left.kids.length lc, .int .i64 y.right.op, .string y.right.t.v, .int .i64 y.right.t.k, .int .i64 y.right.t.n, .string y.right.t.s, .slice R y.right.kids.length rc, .int .i64 y.pos] 50) := ⟨_, rfl⟩
        rw [← hW0] at hO hbW ⊢
        clear hW0
        obtain ⟨b, hb⟩ : ∃ b, b = wr.heap.size := ⟨_, rfl⟩
        rw [← hb] at hO ⊢
        clear hb
        have hS : W0.cell? ⟨b, 1, none⟩ = some (.string y.atom.rel) ∧ W0.cell? ⟨b, 2, none⟩ = some (.slice AA y.atom.args.length ac) ∧ W0.cell? ⟨b, 4, none⟩ = some (.int .i64 y.left.op) ∧ W0.cell? ⟨b, 5, none⟩ = some (.string y.left.t.v) ∧ W0.cell? ⟨b, 6, none⟩ = some (.int .i64 y.left.t.k) ∧ W0.cell? ⟨b, 7, none⟩ = some (.int .i64 y.left.t.n) ∧ W0.cell? ⟨b, 8, none⟩ = some (.string y.left.t.s) ∧ W0.cell? ⟨b, 9, none⟩ = some (.slice L y.left.kids.length lc) ∧ W0.cell? ⟨b, 10, none⟩ = some (.int .i64 y.right.op) ∧ W0.cell? ⟨b, 11, none⟩ = some (.string y.right.t.v) ∧ W0.cell? ⟨b, 12, none⟩ = some (.int .i64 y.right.t.k) ∧ W0.cell? ⟨b, 13, none⟩ = some (.int .i64 y.right.t.n) ∧ W0.cell? ⟨b, 14, none⟩ = some (.string y.right.t.s) ∧ W0.cell? ⟨b, 15, none⟩ = some (.slice R y.right.kids.length rc) ∧ b < W0.heap.size ∧  Below wr.heap.size wr W0 :=
          ⟨hO.cell 1, hO.cell 2, hO.cell 4, hO.cell 5, hO.cell 6, hO.cell 7, hO.cell 8, hO.cell 9, hO.cell 10, hO.cell 11, hO.cell 12, hO.cell 13, hO.cell 14, hO.cell 15, hO.lt, hbW⟩
        clear hO hbW c0 c1 c2 c3 c4 c5 c6 c7 c8 c9 d0 d1 d2 d3 d4 d5 c16
        go_region_held3 (fun w' => w'.cell? ⟨b, 1, none⟩ = some (.string y.atom.rel) ∧ w'.cell? ⟨b, 2, none⟩ = some (.slice AA y.atom.args.length ac) ∧ w'.cell? ⟨b, 4, none⟩ = some (.int .i64 y.left.op) ∧ w'.cell? ⟨b, 5, none⟩ = some (.string y.left.t.v) ∧ w'.cell? ⟨b, 6, none⟩ = some (.int .i64 y.left.t.k) ∧ w'.cell? ⟨b, 7, none⟩ = some (.int .i64 y.left.t.n) ∧ w'.cell? ⟨b, 8, none⟩ = some (.string y.left.t.s) ∧ w'.cell? ⟨b, 9, none⟩ = some (.slice L y.left.kids.length lc) ∧ w'.cell? ⟨b, 10, none⟩ = some (.int .i64 y.right.op) ∧ w'.cell? ⟨b, 11, none⟩ = some (.string y.right.t.v) ∧ w'.cell? ⟨b, 12, none⟩ = some (.int .i64 y.right.t.k) ∧ w'.cell? ⟨b, 13, none⟩ = some (.int .i64 y.right.t.n) ∧ w'.cell? ⟨b, 14, none⟩ = some (.string y.right.t.s) ∧ w'.cell? ⟨b, 15, none⟩ = some (.slice R y.right.kids.length rc) ∧ b < w'.heap.size ∧ Below wr.heap.size wr w')
          (first | (with_reducible assumption) | (with_reducible exact box17 (by assumption) (Below.refl _ _).drew) | (with_reducible exact box17 (by assumption) hb1) | go_keep)
          (first
            | (go_at_call 36; refine (C1.out _ ?_).mono ?_; exact box17_low (by assumption); rintro e w' ⟨rfl, hb1⟩)
            | (go_at_call 37; first | ((with_reducible refine (C2.out _ ?_).mono ?_); exact box17_low (by assumption); rintro e w' ⟨rfl, hb1⟩) | ((with_reducible refine (C3.out _ ?_).mono ?_); exact box17_low (by assumption); rintro e w' ⟨rfl, hb1⟩)))
        all_goals
          have HB' : Hid (Below w.heap.size w _) := HB.out.trans ((box17_low (by assumption)).mono HB.out.size)
          go_wp2_with fail
          go_roundw
          case rel => exact ⟨j + 1, z3, by omega, by go_num, rfl, hx1', hr2, HN, HB'⟩
          case measure => simp [intOf]; omega
    · have HN := Lib.hid ((leftB_end hlt).symm.trans HX.out)
      clear HX
      go_wp2_with fail
      go_ret
      exact ⟨ret_i64 HN.out, HB.out⟩
end Go.Proofs.YtlfakhjcpdkaiaaGreatDoor

set_option linter.unusedVariables false
set_option linter.unusedSimpArgs false
namespace Go.Proofs.YtlfakhjcpdkaiaaGreatDoor
open Go.RowKit Go.Deep Go.Shelf

set_option maxRecDepth 100000 in
set_option maxHeartbeats 1000000 in
theorem Size_any (p : TPg) (A : Option Addr) (c : Nat) (B : Option Addr) (d : Nat) (l : Int) (w : World) (hV : PgV w p A B) (hl1 : 0 ≤ l) (hl2 : l ≤ 2000) :
    Calls Tryz.prog 5 #[pgV p A c B d, .int .i64 l] w fun r w' => r = .returned (.int .i64 (leftPg p l)) ∧ Below w.heap.size w w' := by
  have HV := Lib.hid hV
  have hlen := hV.decls.1
  have hlen2 := hV.rules.1
  have hO : Own (w.alloc (.cells #[.slice A p.decls.length c, .slice B p.rules.length d] 25)) w.heap.size 25 [.slice A p.decls.length c, .slice B p.rules.length d] := heap_alloc_new _ _
  have hb0 : Below w.heap.size w (w.alloc (.cells #[.slice A p.decls.length c, .slice B p.rules.length d] 25)) := (Below.refl _ _).alloc (Nat.le_refl _) _
  have HB0 := Lib.hid hb0
  have HP : Hid (leftPg p l = if leftDs p.decls l < 0 then -1 else leftRs p.rules (leftDs p.decls l)) := rfl
  unfold pgV
  clear hV hb0
  obtain ⟨W0, hW0⟩ : ∃ W0, W0 = w.alloc (.cells #[.slice A p.decls.length c, .slice B p.rules.length d] 25) := ⟨_, rfl⟩
  rw [← hW0] at hO HB0
  have HO := Lib.hid hO
  have HW0 := Lib.hid hW0
  clear hO hW0
  go_enter Tryz.func5, Tryz.ntmps5
  go_wp2_with fail
  rw [← HW0.out]
  go_loopw [1, 12] (fun lv i wr => ∃ (j : Nat) (x : Int), j ≤ p.decls.length ∧ i = .int .i64 j ∧ lv = .int .i64 x ∧ 0 ≤ x ∧ x ≤ 2000 ∧ Hid (leftDs (p.decls.drop j) x = leftDs p.decls l) ∧ Hid (Below W0.heap.size W0 wr)) (fun _ i _ => p.decls.length - (intOf i).toNat)
  case atStart => exact ⟨0, l, Nat.zero_le _, rfl, rfl, hl1, hl2, Lib.hid rfl, Lib.hid (Below.refl _ _)⟩
  case round =>
    obtain ⟨j, x, hj, rfl, rfl, h1, h2, HX, HB⟩ := hrel
    by_cases hlt : j < p.decls.length
    · obtain ⟨b, o, rfl, hbw, hc⟩ := HV.out.decls.at_ hlt
      have hc := hc.pers (Pers.of (HB0.out.trans (HB.out.mono HB0.out.size)))
      obtain ⟨c0, ⟨AA, ac, c1, hrow⟩, c2, hok⟩ := hc
      have hkl := hrow.1
      by_cases h0 : x - dcost p.decls[j] < 0
      · have HN := Lib.hid ((leftDs_neg hlt h0).symm.trans HX.out)
        have HF : Hid (-1 = leftPg p l) := by show _ = _; rw [HP.out, ← HN.out]; rfl
        clear HX hrow
        generalize p.decls[j] = y at *
        have hy : x - (1 + (y.rel.size : Int) / 50 + (y.kinds.length : Int)) < 0 := h0
        clear h0
        go_wp2_with fail
        go_ret
        exact ⟨ret_i64 HF.out, (HB0.out.trans (HB.out.mono HB0.out.size)).alloc (Nat.le_trans HB0.out.size HB.out.size) _⟩
      · have HN := Lib.hid ((leftDs_step hlt h0).symm.trans HX.out)
        clear HX hrow
        generalize p.decls[j] = y at *
        have hy : ¬ x - (1 + (y.rel.size : Int) / 50 + (y.kinds.length : Int)) < 0 := h0
        have hy2 : 0 ≤ x - (1 + (y.rel.size : Int) / 50 + (y.kinds.length : Int)) := by omega
        have hy3 : x - (1 + (y.rel.size : Int) / 50 + (y.kinds.length : Int)) ≤ 2000 := by omega
        clear h0
        go_wp2_with fail
        go_roundw
        case rel => exact ⟨j + 1, _, by omega, by go_num, rfl, hy2, hy3, HN, Lib.hid (HB.out.alloc HB.out.size _)⟩
        case measure => simp [intOf]; omega
    · have HN := Lib.hid ((leftDs_end hlt).symm.trans HX.out)
      have HQ : Hid (leftPg p l = leftRs p.rules x) := by show _ = _; rw [HP.out, ← HN.out, if_neg (by omega)]
      clear HX HN HP
      have HB1 : Hid (Below w.heap.size w wr) := HB0.out.trans (HB.out.mono HB0.out.size)
      have c1 := (HO.out.below HB.out).cell 1
      have q1 := (HO.out.below HB.out).lt
      simp only [List.getElem?_cons_zero, List.getElem?_cons_succ] at c1
      go_wp2_with fail
      clear c1 q1
      go_loopw [1, 33] (fun lv i wr => ∃ (k : Nat) (x : Int), k ≤ p.rules.length ∧ i = .int .i64 k ∧ lv = .int .i64 x ∧ 0 ≤ x ∧ x ≤ 2000 ∧ Hid (leftRs (p.rules.drop k) x = leftPg p l) ∧ Hid (Below w.heap.size w wr)) (fun _ i _ => p.rules.length - (intOf i).toNat)
      case atStart => exact ⟨0, x, Nat.zero_le _, rfl, rfl, h1, h2, Lib.hid HQ.out.symm, HB1⟩
      case round =>
        obtain ⟨k, x, hk, rfl, rfl, h1, h2, HX, HB⟩ := hrel
        by_cases hlt : k < p.rules.length
        · obtain ⟨b, o, rfl, hbw, hc⟩ := HV.out.rules.at_ hlt
          have hc := hc.pers (Pers.of HB.out)
          obtain ⟨AA, ac, BB, bc, c0, c1, c2, c3, c4, c5, hy⟩ := hc.open_
          have HY := Lib.hid hy
          have HU : Hid (0 ≤ leftRu p.rules[k] (x - 1) → leftRu p.rules[k] (x - 1) ≤ 2000) := fun h => by have := leftRu_cnt h; omega
          by_cases h0 : leftRu p.rules[k] (x - 1) < 0
          · have HN := Lib.hid ((leftRs_neg hlt h0).symm.trans HX.out)
            clear HX hc hy
            generalize p.rules[k] = y at *
            have C := Lib.hid (Rule_any y AA ac BB bc (x - 1) _ (HY.out.below ((Below.refl wr.heap.size wr).alloc (o := .cells #[.string y.head.rel, .slice AA y.head.args.length ac, .int .i64 y.agg, .int .i64 y.col, .slice BB y.body.length bc, .int .i64 y.pos] 54) (Nat.le_refl _))) (by omega) (by omega))
            generalize leftRu y (x - 1) = z at *
            go_wp2_with fail
            refine C.out.mono ?_
            rintro e w2 ⟨rfl, hb⟩
            have HB2 : Hid (Below w.heap.size w w2) := (HB.out.alloc HB.out.size _).trans (hb.mono (by simp; have := HB.out.size; omega))
            clear hb
            go_wp2_with fail
            go_ret
            exact ⟨ret_i64 HN.out, HB2.out⟩
          · have HN := Lib.hid ((leftRs_step hlt h0).symm.trans HX.out)
            have hu := HU.out (by omega)
            clear HX hc hy
            generalize p.rules[k] = y at *
            have C := Lib.hid (Rule_any y AA ac BB bc (x - 1) _ (HY.out.below ((Below.refl wr.heap.size wr).alloc (o := .cells #[.string y.head.rel, .slice AA y.head.args.length ac, .int .i64 y.agg, .int .i64 y.col, .slice BB y.body.length bc, .int .i64 y.pos] 54) (Nat.le_refl _))) (by omega) (by omega))
            generalize leftRu y (x - 1) = z at *
            go_wp2_with fail
            refine C.out.mono ?_
            rintro e w2 ⟨rfl, hb⟩
            have HB2 : Hid (Below w.heap.size w w2) := (HB.out.alloc HB.out.size _).trans (hb.mono (by simp; have := HB.out.size; omega))
            clear hb
            go_wp2_with fail
            go_roundw
            case rel => exact ⟨k + 1, z, by omega, by go_num, rfl, by omega, hu, HN, HB2⟩
            case measure => simp [intOf]; omega
        · have HN := Lib.hid ((leftRs_end hlt).symm.trans HX.out)
          clear HX
          go_wp2_with fail
          go_ret
          exact ⟨ret_i64 HN.out, HB.out⟩
end Go.Proofs.YtlfakhjcpdkaiaaGreatDoor

set_option linter.unusedVariables false
set_option linter.unusedSimpArgs false
namespace Go.Proofs.YtlfakhjcpdkaiaaGreatDoor
open Go.RowKit Go.Deep Go.Shelf

theorem infoRru : (Tryz.prog.info? 70).map (·.size) = some 6 := by kernel_rfl
theorem infoRl : (Tryz.prog.info? 96).map (fun i => (i.zero, i.size, i.bytes)) = some (some (.agg #[.int .i64 0, .string noText, .slice none 0 0, .int .i64 0, .int .i64 0, .string noText, .int .i64 0, .int .i64 0, .string noText, .slice none 0 0, .int .i64 0, .string noText, .int .i64 0, .int .i64 0, .string noText, .slice none 0 0, .int .i64 0]), 17, 224) := by kernel_rfl
theorem step_load {P : Program} {ops : Array Oper} {o : Oper} {a : Act} {w : World} {K : Act → World → Prop} {Q : Exit → Act → World → Prop} {E : Prop}
    (hg : o.guard = none) (ty : TypeId) (x : Operand) (ho : o.op = .load ty x) (b p : Nat) (hx : a.eval x = .pointer (some ⟨b, p, none⟩)) (cs : List Value) (hc : ∀ (j : Nat) v, cs[j]? = some v → w.cell? ⟨b, p + j, none⟩ = some v) (d : TypeDesc)
    (hu : P.underlying ty = some d) (hd : (match d with | .struct _ | .array _ _ => true | _ => false) = true) (hi : (P.info? ty).map (·.size) = some cs.length) (hK : K (a.put o.dst (.agg cs.toArray)) w) :
    if Region.wanted o (yielded ops a.tmps) = true then Oper.wp P o a w K Q else E := by
  have hw : Region.wanted o (yielded ops a.tmps) = true := by simp [Region.wanted, hg]
  rw [if_pos hw]
  unfold Oper.wp execOp
  simp only [ho, hx, Instr.loadAt, Instr.sureAddr, Sem.run_bind, Sem.run_pure, Result.andThen_ok, run_loadVar_at w b p ty cs d hc hu hd hi]
  exact hK
theorem step_val {P : Program} {ops : Array Oper} {o : Oper} {a : Act} {w : World} {K : Act → World → Prop} {Q : Exit → Act → World → Prop} {E : Prop}
    (hg : o.guard = none) {v : Value} {w' : World} (h : (execOp a.eval o).run P w = .ok (.value v) w') (hK : K (a.put o.dst v) w') :
    if Region.wanted o (yielded ops a.tmps) = true then Oper.wp P o a w K Q else E := by
  have hw : Region.wanted o (yielded ops a.tmps) = true := by simp [Region.wanted, hg]
  rw [if_pos hw]
  unfold Oper.wp
  rw [h]
  exact hK
theorem split17 {α : Type} {l : List α} (h : l.length = 17) : ∃ u0 u1 u2 u3 u4 u5 u6 u7 u8 u9 u10 u11 u12 u13 u14 u15 u16, l = [u0, u1, u2, u3, u4, u5, u6, u7, u8, u9, u10, u11, u12, u13, u14, u15, u16] := by
  match l, h with
  | [u0, u1, u2, u3, u4, u5, u6, u7, u8, u9, u10, u11, u12, u13, u14, u15, u16], _ => exact ⟨_, _, _, _, _, _, _, _, _, _, _, _, _, _, _, _, _, rfl⟩
/-- no row of terms lies in a rule's block. -/
theorem am_off {W : World} {b : Nat} {T : TypeId} {a : TAm} {A : Option Addr} {s : ByteArray} {A1 A2 : Option Addr} {n1 c1 n2 c2 : Nat} {i1 i2 i3 : Int} (hO : Own W b T [.string s, .slice A1 n1 c1, .int .i64 i1, .int .i64 i2, .slice A2 n2 c2, .int .i64 i3]) (h : AmV W a A) (h0 : 0 < a.args.length) : ∀ ad, A = some ad → ad.block ≠ b := by
  intro ad had e
  obtain ⟨g, o, h1, _, h3⟩ := h.row.2 h0
  rw [had] at h1
  injection h1 with h1
  subst h1
  have hb : g = b := e
  subst hb
  obtain ⟨d0, d1, _⟩ := h3 0 _ (List.getElem?_eq_getElem h0)
  rw [Nat.zero_mul, Nat.add_zero, hO.cell] at d0
  rw [Nat.zero_mul, Nat.add_zero, hO.cell] at d1
  match o, d0, d1 with
  | 0, _, d1 => simp at d1
  | 1, d0, _ => simp at d0
  | 2, d0, _ => simp at d0
  | 3, d0, _ => simp at d0
  | 4, d0, _ => simp at d0
  | 5, d0, _ => simp at d0
  | n + 6, d0, _ => simp at d0
theorem am_stab' {W : World} {a : TAm} {A : Option Addr} {P : Nat → Prop} (h : AmV W a A) (hA : 0 < a.args.length → ∀ ad, A = some ad → P ad.block) : Stab W P (fun W => AmV W a A) := by
  by_cases h0 : 0 < a.args.length
  · exact am_stab h (hA h0)
  · exact fun w' _ _ => ⟨h.ok, h.row.1, fun h1 => absurd h1 h0⟩
/-- a rule's copy. -/
def GotR (w : World) (r : TRu) (e : Ending) (w' : World) : Prop := ∃ A c B d, e = .returned (ruV r A c B d) ∧ Stab w' (fun k => w.heap.size ≤ k) (fun W => RuV W r A B) ∧ Below w.heap.size w w'
def rcD (k : Nat) : Nat := ([6, 7, 8, 9, 10, 11, 12, 13, 14, 15, 3] : List Nat).getD k 0
def RcF (r : TRu) (A : Option Addr) (c : Nat) (n0 b1 : Nat) : Nat → Value → World → Prop
  | 0, v, _ => v = .pointer (some ⟨b1, 0, none⟩)
  | 1, v, _ => v = .agg #[.string r.head.rel, .slice A r.head.args.length c]
  | 2, v, W => ∃ A2 c2, v = .agg #[.string r.head.rel, .slice A2 r.head.args.length c2] ∧ AmV W r.head A2 ∧ ∀ ad, A2 = some ad → n0 ≤ ad.block
  | 3, v, _ => v = .pointer (some ⟨b1, 2, none⟩)
  | 4, v, _ => v = .int .i64 r.agg
  | 5, v, _ => v = .pointer (some ⟨b1, 3, none⟩)
  | 6, v, _ => v = .int .i64 r.col
  | 7, v, _ => v = .pointer (some ⟨b1, 5, none⟩)
  | 8, v, _ => v = .int .i64 r.pos
  | 9, v, W => ∃ A2 c2, v = .agg #[.string r.head.rel, .slice A2 r.head.args.length c2, .int .i64 r.agg, .int .i64 r.col, .slice none 0 0, .int .i64 r.pos] ∧ AmV W r.head A2 ∧ ∀ ad, A2 = some ad → n0 ≤ ad.block
  | 10, v, W => ∃ b, v = .pointer (some ⟨b, 0, none⟩) ∧ Own W b 70 [.string noText, .slice none 0 0, .int .i64 0, .int .i64 0, .slice none 0 0, .int .i64 0] ∧ n0 ≤ b
  | _, _, _ => False
theorem RcF.keep {r : TRu} {A : Option Addr} {c n0 b1 : Nat} : ∀ k v X Y, RcF r A c n0 b1 k v X → Below X.heap.size X Y → RcF r A c n0 b1 k v Y
  | 0, _, _, _, h, _ => h
  | 1, _, _, _, h, _ => h
  | 2, _, _, _, ⟨p, q, h1, h2, h3⟩, hb => ⟨p, q, h1, h2.below hb, h3⟩
  | 3, _, _, _, h, _ => h
  | 4, _, _, _, h, _ => h
  | 5, _, _, _, h, _ => h
  | 6, _, _, _, h, _ => h
  | 7, _, _, _, h, _ => h
  | 8, _, _, _, h, _ => h
  | 9, _, _, _, ⟨p, q, h1, h2, h3⟩, hb => ⟨p, q, h1, h2.below hb, h3⟩
  | 10, _, _, _, ⟨p, h1, h2, h3⟩, hb => ⟨p, h1, h2.below hb, h3⟩
  | _ + 11, _, _, _, h, _ => h
set_option maxRecDepth 100000 in
set_option maxHeartbeats 4000000 in
theorem Ruled_copy (r : TRu) (A : Option Addr) (c : Nat) (B : Option Addr) (d : Nat) (w : World) (hsz : r.head.args.length ≤ 30000 ∧ r.body.length ≤ 30000 ∧ ∀ x ∈ r.body, x.atom.args.length ≤ 30000 ∧ cntE x.left ≤ 30000 ∧ cntE x.right ≤ 30000) (hV : RuV w r A B) :
    Calls Tryz.prog 17 #[ruV r A c B d] w (GotR w r) := by
  have mixed : Tryz.prog.follows .mixedOrders = true := by kernel_rfl
  have HV := Lib.hid hV
  have HSz := Lib.hid hsz
  have hbl := hV.row.1
  have o1 : Own (w.alloc (.cells #[.string r.head.rel, .slice A r.head.args.length c, .int .i64 r.agg, .int .i64 r.col, .slice B r.body.length d, .int .i64 r.pos] 54)) w.heap.size 54 [.string r.head.rel, .slice A r.head.args.length c, .int .i64 r.agg, .int .i64 r.col, .slice B r.body.length d, .int .i64 r.pos] := heap_alloc_new _ _
  have o2 := heap_alloc_new (w.alloc (.cells #[.string r.head.rel, .slice A r.head.args.length c, .int .i64 r.agg, .int .i64 r.col, .slice B r.body.length d, .int .i64 r.pos] 54)) (.cells #[.string noText, .slice none 0 0, .int .i64 0, .int .i64 0, .slice none 0 0, .int .i64 0] 70)
  simp only [World.size_alloc] at o2
  have HO1 := Lib.hid (o1.alloc (.cells #[.string noText, .slice none 0 0, .int .i64 0, .int .i64 0, .slice none 0 0, .int .i64 0] 70))
  have HO2 : Hid (Own ((w.alloc (.cells #[.string r.head.rel, .slice A r.head.args.length c, .int .i64 r.agg, .int .i64 r.col, .slice B r.body.length d, .int .i64 r.pos] 54)).alloc (.cells #[.string noText, .slice none 0 0, .int .i64 0, .int .i64 0, .slice none 0 0, .int .i64 0] 70)) (w.heap.size + 1) 70 [.string noText, .slice none 0 0, .int .i64 0, .int .i64 0, .slice none 0 0, .int .i64 0]) := o2
  have HB0 : Hid (Below w.heap.size w ((w.alloc (.cells #[.string r.head.rel, .slice A r.head.args.length c, .int .i64 r.agg, .int .i64 r.col, .slice B r.body.length d, .int .i64 r.pos] 54)).alloc (.cells #[.string noText, .slice none 0 0, .int .i64 0, .int .i64 0, .slice none 0 0, .int .i64 0] 70))) := ((Below.refl _ _).alloc (Nat.le_refl _) _).alloc (by simp) _
  have HS0 : Hid (((w.alloc (.cells #[.string r.head.rel, .slice A r.head.args.length c, .int .i64 r.agg, .int .i64 r.col, .slice B r.body.length d, .int .i64 r.pos] 54)).alloc (.cells #[.string noText, .slice none 0 0, .int .i64 0, .int .i64 0, .slice none 0 0, .int .i64 0] 70)).heap.size = w.heap.size + 2) := by show _ = _; simp
  clear o1 o2 hV hsz
  unfold ruV
  go_enter Tryz.func17, Tryz.ntmps17
  go_wp2_with fail
  obtain ⟨W0, hW0⟩ : ∃ W0, W0 = ((w.alloc (.cells #[.string r.head.rel, .slice A r.head.args.length c, .int .i64 r.agg, .int .i64 r.col, .slice B r.body.length d, .int .i64 r.pos] 54)).alloc (.cells #[.string noText, .slice none 0 0, .int .i64 0, .int .i64 0, .slice none 0 0, .int .i64 0] 70)) := ⟨_, rfl⟩
  rw [← hW0] at HO1 HO2 HB0 HS0
  change (Code.region _ _ _).wp _ _ _ ((w.alloc (.cells #[.string r.head.rel, .slice A r.head.args.length c, .int .i64 r.agg, .int .i64 r.col, .slice B r.body.length d, .int .i64 r.pos] 54)).alloc (.cells #[.string ⟨#[]⟩, .slice none 0 0, .int .i64 0, .int .i64 0, .slice none 0 0, .int .i64 0] 70)) at ⊢
  rw [show ((w.alloc (.cells #[.string r.head.rel, .slice A r.head.args.length c, .int .i64 r.agg, .int .i64 r.col, .slice B r.body.length d, .int .i64 r.pos] 54)).alloc (.cells #[.string ⟨#[]⟩, .slice none 0 0, .int .i64 0, .int .i64 0, .slice none 0 0, .int .i64 0] 70)) = W0 from hW0.symm]
  obtain ⟨b1, hb1⟩ : ∃ b, b = w.heap.size := ⟨_, rfl⟩
  obtain ⟨b2, hb2⟩ : ∃ b, b = w.heap.size + 1 := ⟨_, rfl⟩
  rw [← hb2] at HO2 ⊢
  rw [← hb1] at HO1
  rw [show (Value.pointer (some ⟨w.heap.size, 0, none⟩)) = .pointer (some ⟨b1, 0, none⟩) by rw [hb1]]
  have HB1 := Lib.hid hb1
  have HB2 := Lib.hid hb2
  clear hW0 hb1 hb2
  rename_i K1 hK1
  have H1 : Hid (Value.pointer (some ⟨b1, 0, none⟩) = .pointer (some ⟨b1, 0, none⟩)) := rfl
  refine wp_region_makes (m := 11) (D := rcD) (F := RcF r A c (w.heap.size + 2) b1) mixed rfl ?hac ?hdst ?hinj ?hlt ?hg ?hlast RcF.keep ?hstep ?hfin
  case hac => exact ac_of (by kernel_rfl)
  case hdst => exact dst_of (by kernel_rfl)
  case hinj => exact inj_of (by kernel_rfl)
  case hlt =>
    intro i hi
    exact lt_of (n := 32) (by kernel_rfl) i hi
  case hg => exact guard_of (by kernel_rfl)
  case hlast => exact last_of (by kernel_rfl)
  case hstep =>
    intro i o hi ho a w1 hfr hlow hdep K hK
    have hO1 := HO1.out.below hlow
    have hn0 : w.heap.size + 2 ≤ w1.heap.size := by have := hlow.size; have := HS0.out; omega
    have hV1 := HV.out.below (HB0.out.trans (hlow.mono HB0.out.size))
    match i, hi with
    | 0, _ =>
      simp only [List.getElem?_toArray, List.getElem?_cons_zero, List.getElem?_cons_succ, Option.some.injEq] at ho
      subst ho
      have h1 : a.tmps.getD 1 undef = .pointer (some ⟨b1, 0, none⟩) := (hfr 1 (by decide)).trans H1.out
      refine mk_val (v := .pointer (some ⟨b1, 0, none⟩)) (w' := w1) ?_ (hK _ _ (Below.refl _ _) rfl)
      simp only [execOp, Act.eval, h1]
      kernel_rfl
    | 1, _ =>
      simp only [List.getElem?_toArray, List.getElem?_cons_zero, List.getElem?_cons_succ, Option.some.injEq] at ho
      subst ho
      have h1 : a.tmps.getD 6 undef = .pointer (some ⟨b1, 0, none⟩) := hdep ⟨0, .data⟩ (by simp) rfl
      refine mk_val (v := .agg #[.string r.head.rel, .slice A r.head.args.length c]) (w' := w1) ?_ (hK _ _ (Below.refl _ _) rfl)
      simp only [execOp, Act.eval, h1, Instr.loadAt, Instr.sureAddr, Sem.run_bind, Sem.run_pure, Result.andThen_ok]
      rw [run_loadVar_at w1 b1 0 44 [.string r.head.rel, .slice A r.head.args.length c] _ ?_ Tryz.underlying44 rfl infoTam]
      · rfl
      · intro j v hv
        match j, hv with
        | 0, hv => cases hv; exact hO1.cell 0
        | 1, hv => cases hv; exact hO1.cell 1
        | n + 2, hv => simp at hv
    | 2, _ =>
      simp only [List.getElem?_toArray, List.getElem?_cons_zero, List.getElem?_cons_succ, Option.some.injEq] at ho
      subst ho
      have h1 : a.tmps.getD 7 undef = .agg #[.string r.head.rel, .slice A r.head.args.length c] := hdep ⟨1, .data⟩ (by simp) rfl
      refine mk_call (f := 38) (args := #[.agg #[.string r.head.rel, .slice A r.head.args.length c]]) ?_ ((Atom_copy r.head A c w1 HSz.out.1 hV1.am).mono ?_)
      · simp only [execOp, resolve, Act.eval, List.map_toArray, List.map_cons, List.map_nil, h1]
        kernel_rfl
      · rintro e w' ⟨A2, c2, rfl, hE, hA, hb⟩
        exact ⟨_, rfl, hK _ _ hb ⟨A2, c2, rfl, hE, fun ad had => Nat.le_trans hn0 (hA ad had)⟩⟩
    | 3, _ =>
      simp only [List.getElem?_toArray, List.getElem?_cons_zero, List.getElem?_cons_succ, Option.some.injEq] at ho
      subst ho
      have h1 : a.tmps.getD 1 undef = .pointer (some ⟨b1, 0, none⟩) := (hfr 1 (by decide)).trans H1.out
      refine mk_val (v := .pointer (some ⟨b1, 2, none⟩)) (w' := w1) ?_ (hK _ _ (Below.refl _ _) rfl)
      simp only [execOp, Act.eval, h1]
      kernel_rfl
    | 4, _ =>
      simp only [List.getElem?_toArray, List.getElem?_cons_zero, List.getElem?_cons_succ, Option.some.injEq] at ho
      subst ho
      have h1 : a.tmps.getD 9 undef = .pointer (some ⟨b1, 2, none⟩) := hdep ⟨3, .data⟩ (by simp) rfl
      refine mk_val (v := .int .i64 r.agg) (w' := w1) ?_ (hK _ _ (Below.refl _ _) rfl)
      simp only [execOp, Act.eval, h1, Instr.loadAt, Instr.sureAddr, Sem.run_bind, Sem.run_pure, Result.andThen_ok]
      rw [run_loadVar_one w1 b1 2 3 (.int .i64 r.agg) _ (hO1.cell 2) Tryz.underlying3 rfl]
      rfl
    | 5, _ =>
      simp only [List.getElem?_toArray, List.getElem?_cons_zero, List.getElem?_cons_succ, Option.some.injEq] at ho
      subst ho
      have h1 : a.tmps.getD 1 undef = .pointer (some ⟨b1, 0, none⟩) := (hfr 1 (by decide)).trans H1.out
      refine mk_val (v := .pointer (some ⟨b1, 3, none⟩)) (w' := w1) ?_ (hK _ _ (Below.refl _ _) rfl)
      simp only [execOp, Act.eval, h1]
      kernel_rfl
    | 6, _ =>
      simp only [List.getElem?_toArray, List.getElem?_cons_zero, List.getElem?_cons_succ, Option.some.injEq] at ho
      subst ho
      have h1 : a.tmps.getD 11 undef = .pointer (some ⟨b1, 3, none⟩) := hdep ⟨5, .data⟩ (by simp) rfl
      refine mk_val (v := .int .i64 r.col) (w' := w1) ?_ (hK _ _ (Below.refl _ _) rfl)
      simp only [execOp, Act.eval, h1, Instr.loadAt, Instr.sureAddr, Sem.run_bind, Sem.run_pure, Result.andThen_ok]
      rw [run_loadVar_one w1 b1 3 3 (.int .i64 r.col) _ (hO1.cell 3) Tryz.underlying3 rfl]
      rfl
    | 7, _ =>
      simp only [List.getElem?_toArray, List.getElem?_cons_zero, List.getElem?_cons_succ, Option.some.injEq] at ho
      subst ho
      have h1 : a.tmps.getD 1 undef = .pointer (some ⟨b1, 0, none⟩) := (hfr 1 (by decide)).trans H1.out
      refine mk_val (v := .pointer (some ⟨b1, 5, none⟩)) (w' := w1) ?_ (hK _ _ (Below.refl _ _) rfl)
      simp only [execOp, Act.eval, h1]
      kernel_rfl
    | 8, _ =>
      simp only [List.getElem?_toArray, List.getElem?_cons_zero, List.getElem?_cons_succ, Option.some.injEq] at ho
      subst ho
      have h1 : a.tmps.getD 13 undef = .pointer (some ⟨b1, 5, none⟩) := hdep ⟨7, .data⟩ (by simp) rfl
      refine mk_val (v := .int .i64 r.pos) (w' := w1) ?_ (hK _ _ (Below.refl _ _) rfl)
      simp only [execOp, Act.eval, h1, Instr.loadAt, Instr.sureAddr, Sem.run_bind, Sem.run_pure, Result.andThen_ok]
      rw [run_loadVar_one w1 b1 5 3 (.int .i64 r.pos) _ (hO1.cell 5) Tryz.underlying3 rfl]
      rfl
    | 9, _ =>
      simp only [List.getElem?_toArray, List.getElem?_cons_zero, List.getElem?_cons_succ, Option.some.injEq] at ho
      subst ho
      obtain ⟨A2, c2, h1, s1, s2⟩ : RcF r A c (w.heap.size + 2) b1 2 (a.tmps.getD 8 undef) w1 := hdep ⟨2, .data⟩ (by simp) rfl
      have h2 : a.tmps.getD 10 undef = .int .i64 r.agg := hdep ⟨4, .data⟩ (by simp) rfl
      have h3 : a.tmps.getD 12 undef = .int .i64 r.col := hdep ⟨6, .data⟩ (by simp) rfl
      have h4 : a.tmps.getD 14 undef = .int .i64 r.pos := hdep ⟨8, .data⟩ (by simp) rfl
      refine mk_val (v := .agg #[.string r.head.rel, .slice A2 r.head.args.length c2, .int .i64 r.agg, .int .i64 r.col, .slice none 0 0, .int .i64 r.pos]) (w' := w1) ?_ (hK _ _ (Below.refl _ _) ⟨A2, c2, rfl, s1, s2⟩)
      simp only [execOp, Act.eval, List.map_toArray, List.map_cons, List.map_nil, h1, h2, h3, h4]
      kernel_rfl
    | 10, _ =>
      simp only [List.getElem?_toArray, List.getElem?_cons_zero, List.getElem?_cons_succ, Option.some.injEq] at ho
      subst ho
      refine mk_val (v := .pointer (some ⟨w1.heap.size, 0, none⟩)) (w' := w1.alloc (.cells #[.string noText, .slice none 0 0, .int .i64 0, .int .i64 0, .slice none 0 0, .int .i64 0] 70)) ?_ (hK _ _ ((Below.refl _ _).alloc (Nat.le_refl _) _) ⟨_, rfl, heap_alloc_new _ _, hn0⟩)
      simp only [execOp, Act.eval, List.map_toArray, List.map_cons, List.map_nil, Nat.add_zero]
      kernel_rfl
    | n + 11, h => omega
  case hfin =>
    intro o ho a w1 hdf hsz hfr hlow hall
    simp only [List.getElem?_toArray, List.getElem?_cons_zero, List.getElem?_cons_succ, Option.some.injEq] at ho
    subst ho
    obtain ⟨A2, c2, h15, s1, s2⟩ : RcF r A c (w.heap.size + 2) b1 9 (a.tmps.getD 15 undef) w1 := hall 9 (by decide)
    obtain ⟨b3, h3, hO3, hb3⟩ : RcF r A c (w.heap.size + 2) b1 10 (a.tmps.getD 3 undef) w1 := hall 10 (by decide)
    have h1 : a.tmps.getD 1 undef = .pointer (some ⟨b1, 0, none⟩) := (hfr 1 (by decide)).trans rfl
    have h2 : a.tmps.getD 2 undef = .pointer (some ⟨b2, 0, none⟩) := (hfr 2 (by decide)).trans rfl
    have hO1 := HO1.out.below hlow
    have hO2 := HO2.out.below hlow
    have hB1 := HB1.out
    have hB2 := HB2.out
    have hS0 := HS0.out
    have hls := hlow.size
    refine wp_store_row 70 (.tmp 3) (.tmp 15) rfl b3 #[.string r.head.rel, .slice A2 r.head.args.length c2, .int .i64 r.agg, .int .i64 r.col, .slice none 0 0, .int .i64 r.pos] h3 h15 70 #[.string noText, .slice none 0 0, .int .i64 0, .int .i64 0, .slice none 0 0, .int .i64 0] hO3 infoRru rfl (by simp [Value.oneCell']) ?_
    have hrow := setRow_heap w1 b3 _ #[.string r.head.rel, .slice A2 r.head.args.length c2, .int .i64 r.agg, .int .i64 r.col, .slice none 0 0, .int .i64 r.pos] _ _ hO3
    have hkr : Kept [b3] w1 (w1.setRow b3 #[.string r.head.rel, .slice A2 r.head.args.length c2, .int .i64 r.agg, .int .i64 r.col, .slice none 0 0, .int .i64 r.pos]) := ⟨rfl, rfl, rfl, by simp, fun k _ hn => setRow_other w1 b3 k _ (by simpa using hn)⟩
    have hbel : Below w.heap.size w (w1.setRow b3 #[.string r.head.rel, .slice A2 r.head.args.length c2, .int .i64 r.agg, .int .i64 r.col, .slice none 0 0, .int .i64 r.pos]) := (HB0.out.trans (hlow.mono HB0.out.size)).trans (hkr.below (by omega) (fun k hk => by simp only [List.mem_singleton] at hk; omega))
    have hst : Stab (w1.setRow b3 #[.string r.head.rel, .slice A2 r.head.args.length c2, .int .i64 r.agg, .int .i64 r.col, .slice none 0 0, .int .i64 r.pos]) (fun k => w.heap.size + 2 ≤ k ∧ k < (w1.setRow b3 #[.string r.head.rel, .slice A2 r.head.args.length c2, .int .i64 r.agg, .int .i64 r.col, .slice none 0 0, .int .i64 r.pos]).heap.size ∧ k ≠ b3) (fun W => AmV W r.head A2) :=
      (am_stab' (P := fun k => w.heap.size + 2 ≤ k ∧ k < (w1.setRow b3 #[.string r.head.rel, .slice A2 r.head.args.length c2, .int .i64 r.agg, .int .i64 r.col, .slice none 0 0, .int .i64 r.pos]).heap.size ∧ k ≠ b3) s1 (fun h0 ad had => by
        have q1 := s2 ad had
        have q2 := am_off hO3 s1 h0 ad had
        obtain ⟨g, o', e1, e2, _⟩ := s1.row.2 h0
        rw [had] at e1
        injection e1 with e1
        subst e1
        have q3 := hkr.size
        exact ⟨q1, by show g < _; omega, q2⟩)).keep hkr.size (fun k hkw hp => hkr.block k hkw (by simpa using hp.2.2)) (fun _ _ h => h)
    have HO1' := Lib.hid (hkr.own hO1 (by simp only [List.mem_singleton]; omega))
    have hO2' := hkr.own hO2 (by simp only [List.mem_singleton]; omega)
    have hrow' : Own (w1.setRow b3 #[.string r.head.rel, .slice A2 r.head.args.length c2, .int .i64 r.agg, .int .i64 r.col, .slice none 0 0, .int .i64 r.pos]) b3 70 [.string r.head.rel, .slice A2 r.head.args.length c2, .int .i64 r.agg, .int .i64 r.col, .slice none 0 0, .int .i64 r.pos] := hrow
    have hX0 : CpI 17 96 70 FLt 0 (w1.setRow b3 #[.string r.head.rel, .slice A2 r.head.args.length c2, .int .i64 r.agg, .int .i64 r.col, .slice none 0 0, .int .i64 r.pos]).heap.size w b2 b3 [.string noText, .slice none 0 0, .int .i64 0, .int .i64 0, .slice none 0 0, .int .i64 0] [.string r.head.rel, .slice A2 r.head.args.length c2, .int .i64 r.agg, .int .i64 r.col, .slice none 0 0, .int .i64 r.pos] (.slice none 0 0) (r.body.take 0) [] (w1.setRow b3 #[.string r.head.rel, .slice A2 r.head.args.length c2, .int .i64 r.agg, .int .i64 r.col, .slice none 0 0, .int .i64 r.pos]) :=
      ⟨hrow', hO2', GR.nil _, Nat.zero_le _, hrow'.lt, Nat.le_refl _, hbel, by omega, by omega⟩
    obtain ⟨bs, hbs⟩ : ∃ bs, bs = (w1.setRow b3 #[.string r.head.rel, .slice A2 r.head.args.length c2, .int .i64 r.agg, .int .i64 r.col, .slice none 0 0, .int .i64 r.pos]).heap.size := ⟨_, rfl⟩
    rw [← hbs] at hst hX0
    have HX0 := Lib.hid hX0
    have HST := Lib.hid hst
    clear hX0 hst hrow hrow' hO2' hO2 hO1 hbel hkr hbs
    generalize w1.setRow b3 #[.string r.head.rel, .slice A2 r.head.args.length c2, .int .i64 r.agg, .int .i64 r.col, .slice none 0 0, .int .i64 r.pos] = W2 at HX0 HST HO1' ⊢
    refine hK1 _ _ ?_
    clear hK1 hlow hall hfr h15 s1 s2 hO3 hB1 hB2 hS0 hls
    have g4 := HO1'.out.cell 4
    have q1 := HO1'.out.lt
    simp only [List.getElem?_cons_zero, List.getElem?_cons_succ] at g4
    obtain ⟨⟨l⟩, df⟩ := a
    simp only [Act.put] at hdf hsz h1 h2 h3 ⊢
    subst hdf
    change l.length = 32 at hsz
    obtain ⟨t0, l0, rfl, hz0⟩ := cons_of hsz
    obtain ⟨t1, l1, rfl, hz1⟩ := cons_of hz0
    obtain ⟨t2, l2, rfl, hz2⟩ := cons_of hz1
    obtain ⟨t3, l3, rfl, hz3⟩ := cons_of hz2
    obtain ⟨t4, l4, rfl, hz4⟩ := cons_of hz3
    obtain ⟨t5, l5, rfl, hz5⟩ := cons_of hz4
    obtain ⟨t6, l6, rfl, hz6⟩ := cons_of hz5
    obtain ⟨t7, l7, rfl, hz7⟩ := cons_of hz6
    obtain ⟨t8, l8, rfl, hz8⟩ := cons_of hz7
    obtain ⟨t9, l9, rfl, hz9⟩ := cons_of hz8
    obtain ⟨t10, l10, rfl, hz10⟩ := cons_of hz9
    obtain ⟨t11, l11, rfl, hz11⟩ := cons_of hz10
    obtain ⟨t12, l12, rfl, hz12⟩ := cons_of hz11
    obtain ⟨t13, l13, rfl, hz13⟩ := cons_of hz12
    obtain ⟨t14, l14, rfl, hz14⟩ := cons_of hz13
    obtain ⟨t15, l15, rfl, hz15⟩ := cons_of hz14
    obtain ⟨t16, l16, rfl, hz16⟩ := cons_of hz15
    obtain ⟨t17, l17, rfl, hz17⟩ := cons_of hz16
    obtain ⟨t18, l18, rfl, hz18⟩ := cons_of hz17
    obtain ⟨t19, l19, rfl, hz19⟩ := cons_of hz18
    obtain ⟨t20, l20, rfl, hz20⟩ := cons_of hz19
    obtain ⟨t21, l21, rfl, hz21⟩ := cons_of hz20
    obtain ⟨t22, l22, rfl, hz22⟩ := cons_of hz21
    obtain ⟨t23, l23, rfl, hz23⟩ := cons_of hz22
    obtain ⟨t24, l24, rfl, hz24⟩ := cons_of hz23
    obtain ⟨t25, l25, rfl, hz25⟩ := cons_of hz24
    obtain ⟨t26, l26, rfl, hz26⟩ := cons_of hz25
    obtain ⟨t27, l27, rfl, hz27⟩ := cons_of hz26
    obtain ⟨t28, l28, rfl, hz28⟩ := cons_of hz27
    obtain ⟨t29, l29, rfl, hz29⟩ := cons_of hz28
    obtain ⟨t30, l30, rfl, hz30⟩ := cons_of hz29
    obtain ⟨t31, l31, rfl, hz31⟩ := cons_of hz30
    obtain rfl : l31 = [] := List.eq_nil_of_length_eq_zero hz31
    clear hsz hz0 hz1 hz2 hz3 hz4 hz5 hz6 hz7 hz8 hz9 hz10 hz11 hz12 hz13 hz14 hz15 hz16 hz17 hz18 hz19 hz20 hz21 hz22 hz23 hz24 hz25 hz26 hz27 hz28 hz29 hz30 hz31
    have h1' : t1 = .pointer (some ⟨b1, 0, none⟩) := h1
    have h2' : t2 = .pointer (some ⟨b2, 0, none⟩) := h2
    have h3' : t3 = .pointer (some ⟨b3, 0, none⟩) := h3
    clear h1 h2 h3
    subst h1' h2' h3'
    go_wp2_with fail
    clear g4 q1
    go_loopw [19] (fun i wr => ∃ (j : Nat) (vv : Value) (css : List (List Value)), j ≤ r.body.length ∧ i = .int .i64 j ∧ Hid (CpI 17 96 70 FLt 0 bs w b2 b3 [.string noText, .slice none 0 0, .int .i64 0, .int .i64 0, .slice none 0 0, .int .i64 0] [.string r.head.rel, .slice A2 r.head.args.length c2, .int .i64 r.agg, .int .i64 r.col, vv, .int .i64 r.pos] vv (r.body.take j) css wr) ∧ Hid (Stab wr (fun k => w.heap.size + 2 ≤ k ∧ k < bs ∧ k ≠ b3) (fun W => AmV W r.head A2))) (fun i _ => r.body.length - (intOf i).toNat)
    case atStart => exact ⟨0, _, _, Nat.zero_le _, rfl, HX0, HST⟩
    case round =>
      obtain ⟨j, vv, css, hj, rfl, HX, HS⟩ := hrel
      have hb30 := HSz.out.2.1
      have x4 := HX.out.own.cell 4
      have xq := HX.out.own.lt
      simp only [List.getElem?_cons_zero, List.getElem?_cons_succ] at x4
      by_cases hlt : j < r.body.length
      · obtain ⟨b, o, rfl, hbw, hc⟩ := HV.out.row.at_ hlt
        have hT := take_snoc' hlt
        have hsz := HSz.out.2.2 r.body[j] (List.getElem_mem hlt)
        have hlj : (r.body.take j).length = j := by rw [List.length_take]; omega
        obtain ⟨A1, c1, L1, d1, R1, f1, hF, hLV⟩ := (hc.pers (Pers.of HX.out.bel)).open_
        generalize r.body[j] = y at hT hsz hF hLV
        obtain ⟨cs, hcs⟩ : ∃ cs, cs = ltL y A1 c1 L1 d1 R1 f1 := ⟨_, rfl⟩
        have HCS : Hid (∀ (i : Nat) v, cs[i]? = some v → wr.cell? ⟨b, o + j * 17 + i, none⟩ = some v) := fun i v hv => by
          rw [hcs] at hv
          obtain ⟨e0, e1, e2, e3, ⟨e4, e5, e6, e7, e8, e9⟩, ⟨e10, e11, e12, e13, e14, e15⟩, e16⟩ := hF
          match i, hv with
          | 0, hv => cases hv; exact e0
          | 1, hv => cases hv; exact e1
          | 2, hv => cases hv; exact e2
          | 3, hv => cases hv; exact e3
          | 4, hv => cases hv; exact e4
          | 5, hv => cases hv; exact e5
          | 6, hv => cases hv; exact e6
          | 7, hv => cases hv; exact e7
          | 8, hv => cases hv; exact e8
          | 9, hv => cases hv; exact e9
          | 10, hv => cases hv; exact e10
          | 11, hv => cases hv; exact e11
          | 12, hv => cases hv; exact e12
          | 13, hv => cases hv; exact e13
          | 14, hv => cases hv; exact e14
          | 15, hv => cases hv; exact e15
          | 16, hv => cases hv; exact e16
          | n + 17, hv => simp [ltL] at hv
        have HCL : Hid (cs.length = 17) := by show _ = _; rw [hcs]; rfl
        have HOS : Hid ((17 : Nat) = cs.toArray.size) := by show _ = _; rw [List.size_toArray, HCL.out]
        have HON : Hid (cs.toArray.all (·.oneCell') = true) := by show _ = _; rw [hcs]; simp [ltL, Value.oneCell']
        have HI1 : Hid ((Tryz.prog.info? 50).map (·.size) = some cs.length) := by show _ = _; rw [HCL.out]; exact infoLit
        have HI2 : Hid ((Tryz.prog.info? 50).map (·.size) = some cs.toArray.size) := by show _ = _; rw [List.size_toArray, HCL.out]; exact infoLit
        have HC : Hid (∀ W, Below wr.heap.size wr W → Calls Tryz.prog 39 #[.agg cs.toArray] W (GotL W y)) := fun W hb => by
          rw [hcs]
          exact Literal_copy y A1 c1 L1 d1 R1 f1 W hsz (hLV.below hb)
        have HBX : Hid (∀ (i : Nat) v, cs[i]? = some v → (wr.alloc (.cells cs.toArray 50)).drew.cell? ⟨wr.heap.size, 0 + i, none⟩ = some v) := fun i v hv => by
          rw [Nat.zero_add]
          have ho : Own (wr.alloc (.cells cs.toArray 50)) wr.heap.size 50 cs := heap_alloc_new _ _
          exact (ho.cell i).trans hv
        have HLJ := Lib.hid hlj
        have HT := Lib.hid hT
        clear hc hT hsz hF hLV hcs hlj
        go_wp2_with (first
          | (refine wpList_load_at (o := ⟨some 22, _, _, _, _, _⟩) rfl 50 _ rfl b (o + j * 17) rfl cs HCS.out _ Tryz.underlying50 rfl HI1.out ?_)
          | (refine wpList_store_new (o := ⟨none, .store 50 _ _, _, _, _, _⟩) rfl 50 _ _ rfl cs.toArray rfl rfl 50 _ HI2.out HOS.out HON.out ?_))
        have hwx : Below wr.heap.size wr (wr.alloc (.cells cs.toArray 50)).drew := ((Below.refl _ _).alloc (Nat.le_refl _) _).drew
        have HWX := Lib.hid hwx
        clear hwx
        obtain ⟨u0, u1, u2, u3, u4, u5, u6, u7, u8, u9, u10, u11, u12, u13, u14, u15, u16, hcs⟩ := split17 HCL.out
        subst hcs
        go_region_law (first
          | (refine step_run (o := ⟨some 28, _, _, _, _, _⟩) rfl (.tmp 24) (.tmp 27) 68 rfl rfl _ _ rfl rfl hrun ?_)
          | (refine step_call (o := ⟨some 26, _, _, _, _, _⟩) rfl (f := 39) (args := #[.agg #[u0, u1, u2, u3, u4, u5, u6, u7, u8, u9, u10, u11, u12, u13, u14, u15, u16]]) (by simp only [execOp, resolve, Act.eval, List.map_toArray, List.map_cons, List.map_nil]; kernel_rfl) ((HC.out _ HWX.out).mono ?_)
             rintro e w3 ⟨A3, c3, L3, d3, R3, f3, rfl, hE, hb3⟩
             refine ⟨_, rfl, ?_⟩
             have hb13 : Below wr.heap.size wr w3 := HWX.out.trans (hb3.mono HWX.out.size)
             have hbx := (HX.out.below hb13).below ((Below.refl w3.heap.size w3).alloc (o := .cells #[.int .i64 y.kind, .string y.atom.rel, .slice A3 y.atom.args.length c3, .int .i64 y.op, .int .i64 y.left.op, .string y.left.t.v, .int .i64 y.left.t.k, .int .i64 y.left.t.n, .string y.left.t.s, .slice L3 y.left.kids.length d3, .int .i64 y.right.op, .string y.right.t.v, .int .i64 y.right.t.k, .int .i64 y.right.t.n, .string y.right.t.s, .slice R3 y.right.kids.length f3, .int .i64 y.pos] 96) (Nat.le_refl _))
             have hna : (w3.alloc (.cells #[.int .i64 y.kind, .string y.atom.rel, .slice A3 y.atom.args.length c3, .int .i64 y.op, .int .i64 y.left.op, .string y.left.t.v, .int .i64 y.left.t.k, .int .i64 y.left.t.n, .string y.left.t.s, .slice L3 y.left.kids.length d3, .int .i64 y.right.op, .string y.right.t.v, .int .i64 y.right.t.k, .int .i64 y.right.t.n, .string y.right.t.s, .slice R3 y.right.kids.length f3, .int .i64 y.pos] 96)).heap.size = w3.heap.size + 1 := by simp
             have hst : Stab (w3.alloc (.cells #[.int .i64 y.kind, .string y.atom.rel, .slice A3 y.atom.args.length c3, .int .i64 y.op, .int .i64 y.left.op, .string y.left.t.v, .int .i64 y.left.t.k, .int .i64 y.left.t.n, .string y.left.t.s, .slice L3 y.left.kids.length d3, .int .i64 y.right.op, .string y.right.t.v, .int .i64 y.right.t.k, .int .i64 y.right.t.n, .string y.right.t.s, .slice R3 y.right.kids.length f3, .int .i64 y.pos] 96)) (fun k => (k < 0 ∨ bs ≤ k) ∧ some k ≠ vv.ownBlock) (fun W => FLt W (ltL y A3 c3 L3 d3 R3 f3) y) :=
               (hE.below ((Below.refl w3.heap.size w3).alloc (o := .cells #[.int .i64 y.kind, .string y.atom.rel, .slice A3 y.atom.args.length c3, .int .i64 y.op, .int .i64 y.left.op, .string y.left.t.v, .int .i64 y.left.t.k, .int .i64 y.left.t.n, .string y.left.t.s, .slice L3 y.left.kids.length d3, .int .i64 y.right.op, .string y.right.t.v, .int .i64 y.right.t.k, .int .i64 y.right.t.n, .string y.right.t.s, .slice R3 y.right.kids.length f3, .int .i64 y.pos] 96) (Nat.le_refl _))).keep (Nat.le_refl _) (fun _ _ _ => rfl) (fun k hk hp => by
                 have q1 := HWX.out.size
                 have q2 := HX.out.sz
                 refine ⟨.inr (by omega), fun e => ?_⟩
                 have q3 := (HX.out.row.lt k e.symm).2
                 simp at q1 hp
                 omega) |>.imp (fun W h => ⟨A3, c3, L3, d3, R3, f3, rfl, h⟩)
             obtain ⟨A4, c4, w5, hrun, hblk, hsz5, hN⟩ := hbx.app (P := Tryz.prog) (S := 68) Tryz.underlying68 infoRl rfl (by decide) y (ltL y A3 c3 L3 d3 R3 f3) rfl (by simp [ltL, Value.oneCell']) (heap_alloc_new _ _) hst (by rw [HLJ.out]; omega) (by decide)
             rw [HLJ.out] at hrun hN
             rw [HT.out] at hN
             have y5 := (hblk b3 (by rw [hna]; have := hb13.size; omega) HX.out.boxOff).trans ((heap_alloc_old w3 _ b3 (by have := hb13.size; omega)).trans (hb13.block b3 xq))
             have hq5 : b3 < w5.heap.size := by rw [hna] at hsz5; have := hb13.size; omega
             have y4 : w5.cell? ⟨b3, 4, none⟩ = some vv := (World.cell?_of_block (w := wr) y5).trans x4
             have yf : w5.frozen? ⟨b3, 4, none⟩ = false := Own.frozen (y5.trans HX.out.own) 4
             have z4 : w3.cell? ⟨b3, 4, none⟩ = some vv := (hb13.cell (p := ⟨b3, 4, none⟩) xq).trans x4
             have zq : b3 < w3.heap.size := by have := hb13.size; omega
             have HN := Lib.hid (hN 4).1
             have HSN : Hid (Stab (w5.setCell ⟨b3, 4, none⟩ (.slice A4 (j + 1) c4)) (fun k => w.heap.size + 2 ≤ k ∧ k < bs ∧ k ≠ b3) (fun W => AmV W r.head A2)) :=
               HS.out.keep (by have := hb13.size; rw [hna] at hsz5; simp; omega) (fun k hk hp => ((hN 4).2 k hp.2.1 hp.2.2).trans ((heap_alloc_old w3 _ k (by have := hb13.size; omega)).trans (hb13.block k hk))) (fun _ _ h => h)
             clear hN hblk hbx hst y5 hsz5 hna hE hb3 hb13))
        all_goals
          go_wp2
          go_roundw
          case rel => exact ⟨j + 1, _, _, by omega, by go_num, HN, HSN⟩
          case measure => simp [intOf]; omega
      · have hjk : j = r.body.length := by omega
        obtain ⟨A3, c3, hv3⟩ := HX.out.row.val
        subst hv3
        subst hjk
        have hX := HX.out
        rw [List.take_length] at hX
        have HOo := Lib.hid hX.own
        have HRs := Lib.hid hX.res
        have HXX := Lib.hid hX
        clear x4 hX HX
        go_wp2_with (first
          | (refine wpList_load_row (o := ⟨some 31, _, _, _, _, _⟩) rfl 70 _ rfl b3 rfl 70 #[.string r.head.rel, .slice A2 r.head.args.length c2, .int .i64 r.agg, .int .i64 r.col, .slice A3 r.body.length c3, .int .i64 r.pos] (0, 0) _ HOo.out Tryz.underlying70 rfl infoRru ?_)
          | (refine wpList_store_row (o := ⟨none, .store 70 _ _, _, _, _, _⟩) rfl 70 _ _ rfl b2 #[.string r.head.rel, .slice A2 r.head.args.length c2, .int .i64 r.agg, .int .i64 r.col, .slice A3 r.body.length c3, .int .i64 r.pos] rfl rfl 70 _ HRs.out infoRru rfl (by simp [Value.oneCell']) ?_))
        have hrow := setRow_heap wr b2 _ #[.string r.head.rel, .slice A2 r.head.args.length c2, .int .i64 r.agg, .int .i64 r.col, .slice A3 r.body.length c3, .int .i64 r.pos] _ _ HRs.out
        have hkr : Kept [b2] wr (wr.setRow b2 #[.string r.head.rel, .slice A2 r.head.args.length c2, .int .i64 r.agg, .int .i64 r.col, .slice A3 r.body.length c3, .int .i64 r.pos]) := ⟨rfl, rfl, rfl, by simp, fun k _ hn => setRow_other wr b2 k _ (by simpa using hn)⟩
        obtain ⟨q2, q3⟩ := HXX.out.done FLt.c hbl hkr
        have q4 := HXX.out.lo
        have q5 := HXX.out.lt
        have q6 := HXX.out.lb
        have q7 := HXX.out.sz
        have q8 := HB2.out
        have hst : Stab (wr.setRow b2 #[.string r.head.rel, .slice A2 r.head.args.length c2, .int .i64 r.agg, .int .i64 r.col, .slice A3 r.body.length c3, .int .i64 r.pos]) (fun k => w.heap.size ≤ k) (fun W => RuV W r A2 A3) :=
          ((HS.out.keep (P' := fun k => w.heap.size ≤ k) hkr.size (fun k hk hp => hkr.block k hk (by simp only [List.mem_singleton]; omega)) (fun k _ h => by omega)).and (q2.more (fun k _ hp => by rcases hp with hp | hp <;> omega))).imp (fun W h => ⟨h.1, h.2⟩)
        refine bodyPost_ret (v := .agg #[.string r.head.rel, .slice A2 r.head.args.length c2, .int .i64 r.agg, .int .i64 r.col, .slice A3 r.body.length c3, .int .i64 r.pos]) (results_cell_row (P := Tryz.prog) rfl _ _ b2 70 _ (0, 0) _ rfl hrow Tryz.underlying70 rfl infoRru) rfl ?_
        exact ⟨A2, c2, A3, c3, rfl, hst, q3⟩
end Go.Proofs.YtlfakhjcpdkaiaaGreatDoor

set_option linter.unusedVariables false
set_option linter.unusedSimpArgs false
namespace Go.Proofs.YtlfakhjcpdkaiaaGreatDoor
open Go.RowKit Go.Deep Go.Shelf

theorem infoRpg : (Tryz.prog.info? 31).map (·.size) = some 2 := by kernel_rfl
theorem infoRde : (Tryz.prog.info? 64).map (fun i => (i.zero, i.size, i.bytes)) = some (some (.agg #[.string noText, .slice none 0 0, .int .i64 0]), 3, 48) := by kernel_rfl
theorem infoRr : (Tryz.prog.info? 70).map (fun i => (i.zero, i.size, i.bytes)) = some (some (.agg #[.string noText, .slice none 0 0, .int .i64 0, .int .i64 0, .slice none 0 0, .int .i64 0]), 6, 88) := by kernel_rfl
/-- a program's copy. -/
def GotP (n0 : Nat) (w : World) (p : TPg) (e : Ending) (w' : World) : Prop := ∃ A c B d, e = .returned (pgV p A c B d) ∧ Stab w' (fun k => k < n0 ∨ w.heap.size ≤ k) (fun W => PgV W p A B) ∧ Below w.heap.size w w'
/-- what is small enough to be copied. -/
def SmallP (p : TPg) : Prop := p.decls.length ≤ 30000 ∧ p.rules.length ≤ 30000 ∧ ∀ r ∈ p.rules, r.head.args.length ≤ 30000 ∧ r.body.length ≤ 30000 ∧ ∀ x ∈ r.body, x.atom.args.length ≤ 30000 ∧ cntE x.left ≤ 30000 ∧ cntE x.right ≤ 30000
set_option maxRecDepth 100000 in
set_option maxHeartbeats 4000000 in
theorem Document_copy (p : TPg) (A : Option Addr) (c : Nat) (B : Option Addr) (d : Nat) (w0 w : World) (hsz : SmallP p) (hV0 : PgV w0 p A B) (hw0 : Below w0.heap.size w0 w) :
    Calls Tryz.prog 6 #[pgV p A c B d] w (GotP w0.heap.size w p) := by
  have hV := hV0.below hw0
  have HV0 := Lib.hid hV0
  have HW0 := Lib.hid hw0
  have hsz0 := hw0.size
  clear hV0 hw0
  have HV := Lib.hid hV
  have HSz := Lib.hid hsz
  have hd30 := hsz.1
  have hr30 := hsz.2.1
  have hdl := hV.decls.1
  have hrl := hV.rules.1
  have o1 : Own (w.alloc (.cells #[.slice A p.decls.length c, .slice B p.rules.length d] 25)) w.heap.size 25 [.slice A p.decls.length c, .slice B p.rules.length d] := heap_alloc_new _ _
  have o2 := heap_alloc_new (w.alloc (.cells #[.slice A p.decls.length c, .slice B p.rules.length d] 25)) (.cells #[.slice none 0 0, .slice none 0 0] 31)
  have o3 := heap_alloc_new ((w.alloc (.cells #[.slice A p.decls.length c, .slice B p.rules.length d] 25)).alloc (.cells #[.slice none 0 0, .slice none 0 0] 31)) (.cells #[.slice none 0 0, .slice none 0 0] 31)
  simp only [World.size_alloc] at o2 o3
  have o2' : Own ((w.alloc (.cells #[.slice A p.decls.length c, .slice B p.rules.length d] 25)).alloc (.cells #[.slice none 0 0, .slice none 0 0] 31)) (w.heap.size + 1) 31 [.slice none 0 0, .slice none 0 0] := o2
  have HX0 : Hid (CpI 3 64 31 FDe w0.heap.size (w.heap.size + 1 + 1 + 1) w (w.heap.size + 1) (w.heap.size + 1 + 1) [.slice none 0 0, .slice none 0 0] [(.slice none 0 0), .slice none 0 0] (.slice none 0 0) (p.decls.take 0) [] (((w.alloc (.cells #[.slice A p.decls.length c, .slice B p.rules.length d] 25)).alloc (.cells #[.slice none 0 0, .slice none 0 0] 31)).alloc (.cells #[.slice none 0 0, .slice none 0 0] 31))) :=
    ⟨o3, o2'.alloc _, GR.nil _, hsz0, Nat.lt_succ_self _, by simp, (((Below.refl _ _).alloc (Nat.le_refl _) _).alloc (by simp) _).alloc (by simp; omega) _, Nat.le_succ _, Nat.lt_succ_self _⟩
  have HO1 := Lib.hid ((o1.alloc (.cells #[.slice none 0 0, .slice none 0 0] 31)).alloc (.cells #[.slice none 0 0, .slice none 0 0] 31))
  clear o1 o2 o3 o2' hV hsz
  obtain ⟨W, hW⟩ : ∃ W, W = (((w.alloc (.cells #[.slice A p.decls.length c, .slice B p.rules.length d] 25)).alloc (.cells #[.slice none 0 0, .slice none 0 0] 31)).alloc (.cells #[.slice none 0 0, .slice none 0 0] 31)) := ⟨_, rfl⟩
  obtain ⟨b1, hb1⟩ : ∃ b, b = w.heap.size := ⟨_, rfl⟩
  obtain ⟨b2, hb2⟩ : ∃ b, b = w.heap.size + 1 := ⟨_, rfl⟩
  obtain ⟨b3, hb3⟩ : ∃ b, b = w.heap.size + 1 + 1 := ⟨_, rfl⟩
  rw [← hW, ← hb3, ← hb2] at HX0
  rw [← hW, ← hb1] at HO1
  obtain ⟨v0, hv0⟩ : ∃ v, v = Value.slice A p.decls.length c := ⟨_, rfl⟩
  rw [← hv0] at HO1
  clear hv0
  have HW := Lib.hid hW
  have HB1 := Lib.hid hb1
  have HB2 := Lib.hid hb2
  have HB3 := Lib.hid hb3
  clear hW hb1 hb2 hb3
  unfold pgV
  go_enter Tryz.func6, Tryz.ntmps6
  go_wp2_with fail
  rw [← HW.out, ← HB3.out, ← HB2.out]
  rw [show (Value.pointer (some ⟨w.heap.size, 0, none⟩)) = .pointer (some ⟨b1, 0, none⟩) by rw [HB1.out]]
  go_loopw [12] (fun i wr => ∃ (j : Nat) (vv : Value) (css : List (List Value)), j ≤ p.decls.length ∧ i = .int .i64 j ∧ Hid (CpI 3 64 31 FDe w0.heap.size (b3 + 1) w b2 b3 [.slice none 0 0, .slice none 0 0] [vv, .slice none 0 0] vv (p.decls.take j) css wr) ∧ Hid (Own wr b1 25 [v0, .slice B p.rules.length d])) (fun i _ => p.decls.length - (intOf i).toNat)
  case atStart => exact ⟨0, _, _, Nat.zero_le _, rfl, HX0, HO1⟩
  case round =>
    obtain ⟨j, vv, css, hj, rfl, HX, HO⟩ := hrel
    have x0 := HX.out.own.cell 0
    have xq := HX.out.own.lt
    simp only [List.getElem?_cons_zero, List.getElem?_cons_succ] at x0
    by_cases hlt : j < p.decls.length
    · obtain ⟨b, o, rfl, hbw, hc⟩ := HV0.out.decls.at_ hlt
      obtain ⟨d0, ⟨A1, c1, d1, hkr⟩, d2, hok⟩ := hc
      have hb0r : Below w0.heap.size w0 wr := HW0.out.trans (HX.out.bel.mono hsz0)
      have d0 := (hb0r.cell (p := ⟨b, _, none⟩) hbw).trans d0
      have d1 := (hb0r.cell (p := ⟨b, _, none⟩) hbw).trans d1
      have d2 := (hb0r.cell (p := ⟨b, _, none⟩) hbw).trans d2
      have HT := Lib.hid (take_snoc' hlt)
      generalize p.decls[j] = y at *
      have hbx : Below wr.heap.size wr ((wr.alloc (.cells #[.string y.rel, .slice A1 y.kinds.length c1, .int .i64 y.pos] 62)).alloc (.cells #[.string y.rel, .slice A1 y.kinds.length c1, .int .i64 y.pos] 64)) := ((Below.refl _ _).alloc (Nat.le_refl _) _).alloc (by simp) _
      have hlj : (p.decls.take j).length = j := by rw [List.length_take]; omega
      have hst : Stab ((wr.alloc (.cells #[.string y.rel, .slice A1 y.kinds.length c1, .int .i64 y.pos] 62)).alloc (.cells #[.string y.rel, .slice A1 y.kinds.length c1, .int .i64 y.pos] 64)) (fun k => (k < w0.heap.size ∨ b3 + 1 ≤ k) ∧ some k ≠ vv.ownBlock) (fun W => FDe W [.string y.rel, .slice A1 y.kinds.length c1, .int .i64 y.pos] y) :=
        (Stab.old (n := 0) (w := w0) (F := fun W => FDe W [.string y.rel, .slice A1 y.kinds.length c1, .int .i64 y.pos] y) (fun W hp => ⟨A1, c1, rfl, hkr.int hp, hok⟩)).keep (Nat.le_trans hb0r.size hbx.size)
          (fun k hk _ => ((hb0r.trans (hbx.mono hb0r.size)).block k hk)) (fun k hk _ => ⟨.inl hk, fun e => by have q1 := (HX.out.row.lt k e.symm).1; have q2 := HB3.out; omega⟩)
      obtain ⟨A3, c3, w5, hrun, hblk, hsz5, hN⟩ := (HX.out.below hbx).app (P := Tryz.prog) (S := 28) Tryz.underlying28 infoRde rfl (by decide) y [.string y.rel, .slice A1 y.kinds.length c1, .int .i64 y.pos] rfl (by simp [Value.oneCell']) (heap_alloc_new _ _)
        hst (by rw [hlj]; omega) (by decide)
      rw [hlj] at hrun hN
      simp only [World.size_alloc] at hrun
      have y5 := (hblk b3 (by have := hbx.size; omega) (by exact HX.out.boxOff)).trans (hbx.block b3 xq)
      have hq5 : b3 < w5.heap.size := by have := hbx.size; omega
      have y0 : w5.cell? ⟨b3, 0, none⟩ = some vv := (World.cell?_of_block (w := wr) y5).trans x0
      have yf : w5.frozen? ⟨b3, 0, none⟩ = false := Own.frozen (y5.trans HX.out.own) 0
      have HN := Lib.hid (hN 0).1
      have HON : Hid (Own (w5.setCell ⟨b3, 0, none⟩ (.slice A3 (j + 1) c3)) b1 25 [v0, .slice B p.rules.length d]) := ((hN 0).2 b1 (by have := HB1.out; have := HB3.out; omega) (by have := HB1.out; have := HB3.out; omega)).trans ((hbx.block b1 HO.out.lt).trans HO.out)
      rw [HT.out] at HN
      clear hN hblk hbx hlj hok y5 HT hst hkr hb0r
      go_wp2_with (refine wpList_append_run (o := ⟨some 26, _, _, _, _, _⟩) rfl (.tmp 17) (.tmp 25) 28 rfl rfl _ _ rfl rfl hrun ?_)
      go_roundw
      case rel => exact ⟨j + 1, _, _, by omega, by go_num, HN, HON⟩
      case measure => simp [intOf]; omega
    · have hjk : j = p.decls.length := by omega
      obtain ⟨A3, c3, hv3⟩ := HX.out.row.val
      subst hv3
      subst hjk
      have hX := HX.out
      rw [List.take_length] at hX
      obtain ⟨bs, hbs⟩ : ∃ bs, bs = wr.heap.size := ⟨_, rfl⟩
      have HC2 : Hid (CpI 6 70 31 FRu 0 bs w b2 b3 [.slice none 0 0, .slice none 0 0] [.slice A3 p.decls.length c3, (.slice none 0 0)] (.slice none 0 0) (p.rules.take 0) [] wr) := ⟨hX.own, hX.res, GR.nil _, Nat.zero_le _, by rw [hbs]; exact hX.own.lt, by rw [hbs]; exact Nat.le_refl _, hX.bel, hX.lo, hX.lt⟩
      have HD : Hid (Stab wr (fun k => (k < w0.heap.size ∨ w.heap.size ≤ k) ∧ k < bs ∧ k ≠ b3 ∧ k ≠ b2) (fun W => Rg 3 DeC W A3 p.decls)) := (hX.row.rg rfl FDe.c hdl).more (fun k hk hp => ⟨by have := HB3.out; rcases hp with hp | hp <;> omega, by rw [hbs]; exact hk, by have := HB3.out; have := HB2.out; rcases hp with hp | hp <;> omega, by have := HB3.out; have := HB2.out; rcases hp with hp | hp <;> omega⟩)
      have g1 := HO.out.cell 1
      have gq := HO.out.lt
      simp only [List.getElem?_cons_zero, List.getElem?_cons_succ] at g1
      clear x0 hX HX hbs HO
      obtain ⟨wq, hwq⟩ : ∃ wq, wq = wr := ⟨_, rfl⟩
      subst hwq
      go_wp2_with fail
      clear g1 gq xq
      go_loopw [32] (fun i wr => ∃ (j : Nat) (vv : Value) (css : List (List Value)), j ≤ p.rules.length ∧ i = .int .i64 j ∧ Hid (CpI 6 70 31 FRu 0 bs w b2 b3 [.slice none 0 0, .slice none 0 0] [.slice A3 p.decls.length c3, vv] vv (p.rules.take j) css wr) ∧ Hid (Stab wr (fun k => (k < w0.heap.size ∨ w.heap.size ≤ k) ∧ k < bs ∧ k ≠ b3 ∧ k ≠ b2) (fun W => Rg 3 DeC W A3 p.decls))) (fun i _ => p.rules.length - (intOf i).toNat)
      case atStart => exact ⟨0, _, _, Nat.zero_le _, rfl, HC2, HD⟩
      case round =>
        obtain ⟨j, vv, css, hj, rfl, HX, HS⟩ := hrel
        have x1 := HX.out.own.cell 1
        have xq := HX.out.own.lt
        simp only [List.getElem?_cons_zero, List.getElem?_cons_succ] at x1
        by_cases hlt : j < p.rules.length
        · obtain ⟨b, o, rfl, hbw, hc⟩ := HV.out.rules.at_ hlt
          have HT := Lib.hid (take_snoc' hlt)
          have HSy := Lib.hid (HSz.out.2.2 p.rules[j] (List.getElem_mem hlt))
          have HLJ : Hid ((p.rules.take j).length = j) := by show _ = _; rw [List.length_take]; omega
          obtain ⟨A1, c1, B1, d1, k0, k1, k2, k3, k4, k5, hRV⟩ := (hc.pers (Pers.of HX.out.bel)).open_
          have HC : Hid (∀ W, Below wr.heap.size wr W → Calls Tryz.prog 17 #[ruV p.rules[j] A1 c1 B1 d1] W (GotR W p.rules[j])) := fun W hb => Ruled_copy p.rules[j] A1 c1 B1 d1 W HSy.out (hRV.below hb)
          clear hc hRV HSy
          generalize p.rules[j] = y at *
          unfold ruV at HC
          go_wp2_with fail
          have HWX : Hid (Below wr.heap.size wr (wr.alloc (.cells #[.string y.head.rel, .slice A1 y.head.args.length c1, .int .i64 y.agg, .int .i64 y.col, .slice B1 y.body.length d1, .int .i64 y.pos] 54)).drew) := ((Below.refl _ _).alloc (Nat.le_refl _) _).drew
          go_region_law (first
            | (refine step_run (o := ⟨some 41, _, _, _, _, _⟩) rfl (.tmp 37) (.tmp 40) 29 rfl rfl _ _ rfl rfl hrun ?_)
            | (refine step_call (o := ⟨some 39, _, _, _, _, _⟩) rfl (f := 17) (args := #[.agg #[.string y.head.rel, .slice A1 y.head.args.length c1, .int .i64 y.agg, .int .i64 y.col, .slice B1 y.body.length d1, .int .i64 y.pos]]) (by simp only [execOp, resolve, Act.eval, List.map_toArray, List.map_cons, List.map_nil]; kernel_rfl) ((HC.out _ HWX.out).mono ?_)
               rintro e w3 ⟨A4, c4, B4, d4, rfl, hE, hb3⟩
               refine ⟨_, rfl, ?_⟩
               have hb13 : Below wr.heap.size wr w3 := HWX.out.trans (hb3.mono HWX.out.size)
               have hbx := (HX.out.below hb13).below ((Below.refl w3.heap.size w3).alloc (o := .cells #[.string y.head.rel, .slice A4 y.head.args.length c4, .int .i64 y.agg, .int .i64 y.col, .slice B4 y.body.length d4, .int .i64 y.pos] 70) (Nat.le_refl _))
               have hna : (w3.alloc (.cells #[.string y.head.rel, .slice A4 y.head.args.length c4, .int .i64 y.agg, .int .i64 y.col, .slice B4 y.body.length d4, .int .i64 y.pos] 70)).heap.size = w3.heap.size + 1 := by simp
               have hst : Stab (w3.alloc (.cells #[.string y.head.rel, .slice A4 y.head.args.length c4, .int .i64 y.agg, .int .i64 y.col, .slice B4 y.body.length d4, .int .i64 y.pos] 70)) (fun k => (k < 0 ∨ bs ≤ k) ∧ some k ≠ vv.ownBlock) (fun W => FRu W [.string y.head.rel, .slice A4 y.head.args.length c4, .int .i64 y.agg, .int .i64 y.col, .slice B4 y.body.length d4, .int .i64 y.pos] y) :=
                 (hE.below ((Below.refl w3.heap.size w3).alloc (o := .cells #[.string y.head.rel, .slice A4 y.head.args.length c4, .int .i64 y.agg, .int .i64 y.col, .slice B4 y.body.length d4, .int .i64 y.pos] 70) (Nat.le_refl _))).keep (Nat.le_refl _) (fun _ _ _ => rfl) (fun k hk hp => by
                   have q1 := HWX.out.size
                   have q2 := HX.out.sz
                   refine ⟨.inr (by omega), fun e => ?_⟩
                   have q3 := (HX.out.row.lt k e.symm).2
                   simp at q1 hp
                   omega) |>.imp (fun W h => ⟨A4, c4, B4, d4, rfl, h⟩)
               obtain ⟨A5, c5, w5, hrun, hblk, hsz5, hN⟩ := hbx.app (P := Tryz.prog) (S := 29) Tryz.underlying29 infoRr rfl (by decide) y [.string y.head.rel, .slice A4 y.head.args.length c4, .int .i64 y.agg, .int .i64 y.col, .slice B4 y.body.length d4, .int .i64 y.pos] rfl (by simp [Value.oneCell']) (heap_alloc_new _ _) hst (by rw [HLJ.out]; omega) (by decide)
               rw [HLJ.out] at hrun hN
               rw [HT.out] at hN
               have y5 := (hblk b3 (by rw [hna]; have := hb13.size; omega) HX.out.boxOff).trans ((heap_alloc_old w3 _ b3 (by have := hb13.size; omega)).trans (hb13.block b3 xq))
               have hq5 : b3 < w5.heap.size := by rw [hna] at hsz5; have := hb13.size; omega
               have y1 : w5.cell? ⟨b3, 1, none⟩ = some vv := (World.cell?_of_block (w := wr) y5).trans x1
               have yf : w5.frozen? ⟨b3, 1, none⟩ = false := Own.frozen (y5.trans HX.out.own) 1
               have z1 : w3.cell? ⟨b3, 1, none⟩ = some vv := (hb13.cell (p := ⟨b3, 1, none⟩) xq).trans x1
               have zq : b3 < w3.heap.size := by have := hb13.size; omega
               have HN := Lib.hid (hN 1).1
               have HSN : Hid (Stab (w5.setCell ⟨b3, 1, none⟩ (.slice A5 (j + 1) c5)) (fun k => (k < w0.heap.size ∨ w.heap.size ≤ k) ∧ k < bs ∧ k ≠ b3 ∧ k ≠ b2) (fun W => Rg 3 DeC W A3 p.decls)) :=
                 HS.out.keep (by have := hb13.size; rw [hna] at hsz5; simp; omega) (fun k hk hp => ((hN 1).2 k hp.2.1 hp.2.2.1).trans ((heap_alloc_old w3 _ k (by have := hb13.size; omega)).trans (hb13.block k hk))) (fun _ _ h => h)
               clear hN hblk hbx hst y5 hsz5 hna hE hb3 hb13))
          all_goals
            go_wp2
            go_roundw
            case rel => exact ⟨j + 1, _, _, by omega, by go_num, HN, HSN⟩
            case measure => simp [intOf]; omega
        · have hjk : j = p.rules.length := by omega
          obtain ⟨B3, d3, hv3⟩ := HX.out.row.val
          subst hv3
          subst hjk
          have hX := HX.out
          rw [List.take_length] at hX
          have HOo := Lib.hid hX.own
          have HRs := Lib.hid hX.res
          have HXX := Lib.hid hX
          clear x1 hX HX
          go_wp2_with (first
            | (refine wpList_load_row (o := ⟨some 44, _, _, _, _, _⟩) rfl 31 _ rfl b3 rfl 31 #[.slice A3 p.decls.length c3, .slice B3 p.rules.length d3] (0, 0) _ HOo.out Tryz.underlying31 rfl infoRpg ?_)
            | (refine wpList_store_row (o := ⟨none, .store 31 _ _, _, _, _, _⟩) rfl 31 _ _ rfl b2 #[.slice A3 p.decls.length c3, .slice B3 p.rules.length d3] rfl rfl 31 _ HRs.out infoRpg rfl (by simp [Value.oneCell']) ?_))
          have hrow := setRow_heap wr b2 _ #[.slice A3 p.decls.length c3, .slice B3 p.rules.length d3] _ _ HRs.out
          have hkr : Kept [b2] wr (wr.setRow b2 #[.slice A3 p.decls.length c3, .slice B3 p.rules.length d3]) := ⟨rfl, rfl, rfl, by simp, fun k _ hn => setRow_other wr b2 k _ (by simpa using hn)⟩
          obtain ⟨q2, q3⟩ := HXX.out.done FRu.c hrl hkr
          have q5 := HXX.out.lt
          have q6 := HXX.out.lb
          have q7 := HXX.out.sz
          refine bodyPost_ret (v := .agg #[.slice A3 p.decls.length c3, .slice B3 p.rules.length d3]) (results_cell_row (P := Tryz.prog) rfl _ _ b2 31 _ (0, 0) _ rfl hrow Tryz.underlying31 rfl infoRpg) rfl ?_
          have q4 := HXX.out.lo
          have q8 := HB2.out
          have q9 := HB3.out
          have hst : Stab (wr.setRow b2 #[.slice A3 p.decls.length c3, .slice B3 p.rules.length d3]) (fun k => k < w0.heap.size ∨ w.heap.size ≤ k) (fun W => PgV W p A3 B3) :=
            ((HS.out.keep (P' := fun k => k < w0.heap.size ∨ w.heap.size ≤ k) hkr.size (fun k hk hp => hkr.block k hk (by simp only [List.mem_singleton]; exact hp.2.2.2)) (fun k _ h => h.1)).and (q2.more (fun k _ hp => by rcases hp with hp | hp <;> omega))).imp (fun W h => ⟨h.1, h.2⟩)
          exact ⟨A3, c3, B3, d3, rfl, hst, q3⟩
end Go.Proofs.YtlfakhjcpdkaiaaGreatDoor
