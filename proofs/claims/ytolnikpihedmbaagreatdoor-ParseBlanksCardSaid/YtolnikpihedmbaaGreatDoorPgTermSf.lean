/- Package term's Same: rules and programs. Conditions: none. -/
import Derived.Test.YtolnikpihedmbaaGreatDoorPgTermSb
import Derived.Test.YtolnikpihedmbaaGreatDoorPgTermSa
import Derived.Test.YtolnikpihedmbaaGreatDoorPgTermSc
import Derived.Test.YtolnikpihedmbaaGreatDoorPgTermSd
import Derived.Test.YtolnikpihedmbaaGreatDoorPgTermSe
import Derived.Deep.RegionHeld2
import Derived.Deep.RegionLaw
import Derived.Deep.RegionWith
set_option linter.unusedVariables false
set_option linter.unusedSimpArgs false
namespace Go.Proofs.YtolnikpihedmbaaGreatDoor
open Go.RowKit Go.Deep Go.Shelf

/-- two rules' boxes. -/
abbrev RuS (w : World) (b1 b2 : Nat) (x y : TRu) (A : Option Addr) (c : Nat) (B : Option Addr) (d : Nat) (A' : Option Addr) (c' : Nat) (B' : Option Addr) (d' : Nat) (W : World) : Prop := W.cell? ⟨b1, 0, none⟩ = some (.string x.head.rel) ∧ W.cell? ⟨b1, 1, none⟩ = some (.slice A x.head.args.length c) ∧ W.cell? ⟨b1, 2, none⟩ = some (.int .i64 x.agg) ∧ W.cell? ⟨b1, 3, none⟩ = some (.int .i64 x.col) ∧ W.cell? ⟨b1, 4, none⟩ = some (.slice B x.body.length d) ∧ W.cell? ⟨b1, 5, none⟩ = some (.int .i64 x.pos) ∧ W.cell? ⟨b2, 0, none⟩ = some (.string y.head.rel) ∧ W.cell? ⟨b2, 1, none⟩ = some (.slice A' y.head.args.length c') ∧ W.cell? ⟨b2, 2, none⟩ = some (.int .i64 y.agg) ∧ W.cell? ⟨b2, 3, none⟩ = some (.int .i64 y.col) ∧ W.cell? ⟨b2, 4, none⟩ = some (.slice B' y.body.length d') ∧ W.cell? ⟨b2, 5, none⟩ = some (.int .i64 y.pos) ∧ b1 < W.heap.size ∧ b2 < W.heap.size ∧ Below w.heap.size w W
section
variable {w W W' : World} {b1 b2 : Nat} {x y : TRu} {A : Option Addr} {c : Nat} {B : Option Addr} {d : Nat} {A' : Option Addr} {c' : Nat} {B' : Option Addr} {d' : Nat}
theorem RuS.of (h1 : Own W b1 36 [.string x.head.rel, .slice A x.head.args.length c, .int .i64 x.agg, .int .i64 x.col, .slice B x.body.length d, .int .i64 x.pos]) (h2 : Own W b2 36 [.string y.head.rel, .slice A' y.head.args.length c', .int .i64 y.agg, .int .i64 y.col, .slice B' y.body.length d', .int .i64 y.pos]) (hb : Below w.heap.size w W) : RuS w b1 b2 x y A c B d A' c' B' d' W := ⟨h1.cell 0, h1.cell 1, h1.cell 2, h1.cell 3, h1.cell 4, h1.cell 5, h2.cell 0, h2.cell 1, h2.cell 2, h2.cell 3, h2.cell 4, h2.cell 5, h1.lt, h2.lt, hb⟩
theorem RuS.step (h : RuS w b1 b2 x y A c B d A' c' B' d' W) (hb : Below W.heap.size W W') : RuS w b1 b2 x y A c B d A' c' B' d' W' := by
  obtain ⟨a0, a1, a2, a3, a4, a5, e0, e1, e2, e3, e4, e5, l1, l2, hl⟩ := h
  exact ⟨(hb.cell (p := ⟨b1, 0, none⟩) l1).trans a0, (hb.cell (p := ⟨b1, 1, none⟩) l1).trans a1, (hb.cell (p := ⟨b1, 2, none⟩) l1).trans a2, (hb.cell (p := ⟨b1, 3, none⟩) l1).trans a3, (hb.cell (p := ⟨b1, 4, none⟩) l1).trans a4, (hb.cell (p := ⟨b1, 5, none⟩) l1).trans a5, (hb.cell (p := ⟨b2, 0, none⟩) l2).trans e0, (hb.cell (p := ⟨b2, 1, none⟩) l2).trans e1, (hb.cell (p := ⟨b2, 2, none⟩) l2).trans e2, (hb.cell (p := ⟨b2, 3, none⟩) l2).trans e3, (hb.cell (p := ⟨b2, 4, none⟩) l2).trans e4, (hb.cell (p := ⟨b2, 5, none⟩) l2).trans e5, Nat.lt_of_lt_of_le l1 hb.size, Nat.lt_of_lt_of_le l2 hb.size, hl.trans (hb.mono hl.size)⟩
theorem RuS.low (h : RuS w b1 b2 x y A c B d A' c' B' d' W) : Below w.heap.size w W := h.2.2.2.2.2.2.2.2.2.2.2.2.2.2
end
set_option maxRecDepth 100000 in
set_option maxHeartbeats 4000000 in
theorem ruSame_is (x y : TRu) (A : Option Addr) (c : Nat) (B : Option Addr) (d : Nat) (A' : Option Addr) (c' : Nat) (B' : Option Addr) (d' : Nat) (w : World) (hV : RuV w x A B) (hV' : RuV w y A' B') :
    Calls Tryz.prog 22 #[.agg #[.string x.head.rel, .slice A x.head.args.length c, .int .i64 x.agg, .int .i64 x.col, .slice B x.body.length d, .int .i64 x.pos], .agg #[.string y.head.rel, .slice A' y.head.args.length c', .int .i64 y.agg, .int .i64 y.col, .slice B' y.body.length d', .int .i64 y.pos]] w fun r w' => r = .returned (.bool (sameRu x y)) ∧ Below w.heap.size w w' := by
  have mixed : Tryz.prog.follows .mixedOrders = true := by kernel_rfl
  have o1 : Own (w.alloc (.cells #[.string x.head.rel, .slice A x.head.args.length c, .int .i64 x.agg, .int .i64 x.col, .slice B x.body.length d, .int .i64 x.pos] 36)) w.heap.size 36 [.string x.head.rel, .slice A x.head.args.length c, .int .i64 x.agg, .int .i64 x.col, .slice B x.body.length d, .int .i64 x.pos] := heap_alloc_new _ _
  have o2 := heap_alloc_new (w.alloc (.cells #[.string x.head.rel, .slice A x.head.args.length c, .int .i64 x.agg, .int .i64 x.col, .slice B x.body.length d, .int .i64 x.pos] 36)) (.cells #[.string y.head.rel, .slice A' y.head.args.length c', .int .i64 y.agg, .int .i64 y.col, .slice B' y.body.length d', .int .i64 y.pos] 36)
  simp only [World.size_alloc] at o2
  have HP0 : Hid (Own ((w.alloc (.cells #[.string x.head.rel, .slice A x.head.args.length c, .int .i64 x.agg, .int .i64 x.col, .slice B x.body.length d, .int .i64 x.pos] 36)).alloc (.cells #[.string y.head.rel, .slice A' y.head.args.length c', .int .i64 y.agg, .int .i64 y.col, .slice B' y.body.length d', .int .i64 y.pos] 36)) w.heap.size 36 [.string x.head.rel, .slice A x.head.args.length c, .int .i64 x.agg, .int .i64 x.col, .slice B x.body.length d, .int .i64 x.pos]) := o1.alloc _
  have HQ0 : Hid (Own ((w.alloc (.cells #[.string x.head.rel, .slice A x.head.args.length c, .int .i64 x.agg, .int .i64 x.col, .slice B x.body.length d, .int .i64 x.pos] 36)).alloc (.cells #[.string y.head.rel, .slice A' y.head.args.length c', .int .i64 y.agg, .int .i64 y.col, .slice B' y.body.length d', .int .i64 y.pos] 36)) (w.heap.size + 1) 36 [.string y.head.rel, .slice A' y.head.args.length c', .int .i64 y.agg, .int .i64 y.col, .slice B' y.body.length d', .int .i64 y.pos]) := o2
  have HB0 : Hid (Below w.heap.size w ((w.alloc (.cells #[.string x.head.rel, .slice A x.head.args.length c, .int .i64 x.agg, .int .i64 x.col, .slice B x.body.length d, .int .i64 x.pos] 36)).alloc (.cells #[.string y.head.rel, .slice A' y.head.args.length c', .int .i64 y.agg, .int .i64 y.col, .slice B' y.body.length d', .int .i64 y.pos] 36))) := ((Below.refl _ _).alloc (Nat.le_refl _) _).alloc (by simp) _
  clear o1 o2
  have hd : sameRu x y = (sameAm x.head y.head && (decide (x.agg = y.agg ∧ x.col = y.col) && allTwo sameLt x.body y.body)) := rfl
  have CA : Hid (∀ W, Below w.heap.size w W → Calls Tryz.prog 41 #[.agg #[.string x.head.rel, .slice A x.head.args.length c], .agg #[.string y.head.rel, .slice A' y.head.args.length c']] W fun r w' => r = .returned (.bool (sameAm x.head y.head)) ∧ Below W.heap.size W w') := fun W hb => amSame_is x.head y.head A c A' c' W (hV.am.below hb) (hV'.am.below hb)
  have CF : Hid (∀ W, Below w.heap.size w W → Calls Tryz.prog 43 #[.slice B x.body.length d, .slice B' y.body.length d', .func (.func 44) #[] #[]] W fun r w' => r = .returned (.bool (allTwo sameLt x.body y.body)) ∧ Below W.heap.size W w') := fun W hb =>
    eqfLt_any B B' d d' x.body y.body W hV.row.1 hV'.row.1 (fun j h h' => by
      obtain ⟨g, o, rfl, hgw, hc⟩ := hV.row.at_ h
      obtain ⟨g', o', rfl, hgw', hc'⟩ := hV'.row.at_ h'
      obtain ⟨A1, c1, L1, d1, R1, f1, hF, hL⟩ := (hc.pers (Pers.of hb)).open_
      obtain ⟨A2, c2, L2, d2, R2, f2, hF', hL'⟩ := (hc'.pers (Pers.of hb)).open_
      exact ⟨g, o, g', o', _, _, rfl, rfl, Nat.lt_of_lt_of_le hgw hb.size, Nat.lt_of_lt_of_le hgw' hb.size, rfl, rfl, by simp [ltL, Value.oneCell'], by simp [ltL, Value.oneCell'], ltF_cells hF, ltF_cells hF',
        fun W2 hb2 => ltSame_is _ _ A1 c1 L1 d1 R1 f1 A2 c2 L2 d2 R2 f2 W2 (hL.below hb2) (hL'.below hb2)⟩)
  rw [hd]
  clear hd hV hV'
  generalize sameAm x.head y.head = vA at CA ⊢
  generalize allTwo sameLt x.body y.body = vF at CF ⊢
  cases vA with
  | false =>
    rw [Bool.false_and]
    clear CF
    go_enter Tryz.func22, Tryz.ntmps22
    go_wp2_with fail
    obtain ⟨W0, hW0⟩ : ∃ W0, W0 = ((w.alloc (.cells #[.string x.head.rel, .slice A x.head.args.length c, .int .i64 x.agg, .int .i64 x.col, .slice B x.body.length d, .int .i64 x.pos] 36)).alloc (.cells #[.string y.head.rel, .slice A' y.head.args.length c', .int .i64 y.agg, .int .i64 y.col, .slice B' y.body.length d', .int .i64 y.pos] 36)) := ⟨_, rfl⟩
    obtain ⟨b1, hb1⟩ : ∃ b, b = w.heap.size := ⟨_, rfl⟩
    obtain ⟨b2, hb2⟩ : ∃ b, b = w.heap.size + 1 := ⟨_, rfl⟩
    rw [← hW0] at HP0 HQ0 HB0 ⊢
    rw [← hb2] at HQ0 ⊢
    rw [← hb1] at HP0
    rw [show (Value.pointer (some ⟨w.heap.size, 0, none⟩)) = .pointer (some ⟨b1, 0, none⟩) by rw [hb1]]
    have HS := Lib.hid (RuS.of HP0.out HQ0.out HB0.out)
    clear hW0 hb1 hb2 HP0 HQ0 HB0
    have HBd : Hid (Below w.heap.size w W0.drew) := HS.out.low.drew
    have p0 := HS.out.1
    have p1 := HS.out.2.1
    have q0 := HS.out.2.2.2.2.2.2.1
    have q1 := HS.out.2.2.2.2.2.2.2.1
    clear HS
    first | (go_region_law (refine step_call (o := ⟨some 9, _, _, _, _, _⟩) rfl (f := 41) (args := #[.agg #[.string x.head.rel, .slice A x.head.args.length c], .agg #[.string y.head.rel, .slice A' y.head.args.length c']]) (by simp only [execOp, resolve, Act.eval, List.map_toArray, List.map_cons, List.map_nil]; kernel_rfl) ((CA.out _ HBd.out).mono ?_); rintro e w' ⟨rfl, hb⟩; refine ⟨_, rfl, ?_⟩; have HBf := Lib.hid (HBd.out.trans (hb.mono HBd.out.size)); clear hb)) | fail
    all_goals
      go_wp2
      go_ret
      exact ⟨rfl, HBf.out⟩
  | true =>
    rw [Bool.true_and]
    cases h1 : decide (x.agg = y.agg ∧ x.col = y.col) with
    | false =>
      have kq := eqArr x.agg x.col y.agg y.col false h1
      rw [Bool.false_and]
      clear CF h1
      go_enter Tryz.func22, Tryz.ntmps22
      go_wp2_with fail
      obtain ⟨W0, hW0⟩ : ∃ W0, W0 = ((w.alloc (.cells #[.string x.head.rel, .slice A x.head.args.length c, .int .i64 x.agg, .int .i64 x.col, .slice B x.body.length d, .int .i64 x.pos] 36)).alloc (.cells #[.string y.head.rel, .slice A' y.head.args.length c', .int .i64 y.agg, .int .i64 y.col, .slice B' y.body.length d', .int .i64 y.pos] 36)) := ⟨_, rfl⟩
      obtain ⟨b1, hb1⟩ : ∃ b, b = w.heap.size := ⟨_, rfl⟩
      obtain ⟨b2, hb2⟩ : ∃ b, b = w.heap.size + 1 := ⟨_, rfl⟩
      rw [← hW0] at HP0 HQ0 HB0 ⊢
      rw [← hb2] at HQ0 ⊢
      rw [← hb1] at HP0
      rw [show (Value.pointer (some ⟨w.heap.size, 0, none⟩)) = .pointer (some ⟨b1, 0, none⟩) by rw [hb1]]
      have HS := Lib.hid (RuS.of HP0.out HQ0.out HB0.out)
      clear hW0 hb1 hb2 HP0 HQ0 HB0
      have hS0 := HS.out.step (Below.refl _ _).drew
      clear HS
      first | (go_region_with (first
        | (go_at_call 41; refine (CA.out _ ?_).mono ?_; exact RuS.low (by assumption); rintro e w' ⟨rfl, hb⟩; have hS1 := RuS.step (by assumption) hb; clear hb)
        | (go_at_call 42; refine (aggregate_any _ _ _ _ _ _ _).mono ?_; rintro e w' ⟨rfl, hb⟩; have hS2 := RuS.step (by assumption) hb; clear hb))) | fail
      all_goals
        go_wp2
        go_ret
        exact ⟨rfl, RuS.low (by assumption)⟩
    | true =>
      have kq := eqArr x.agg x.col y.agg y.col true h1
      rw [Bool.true_and]
      clear h1
      go_enter Tryz.func22, Tryz.ntmps22
      go_wp2_with fail
      obtain ⟨W0, hW0⟩ : ∃ W0, W0 = ((w.alloc (.cells #[.string x.head.rel, .slice A x.head.args.length c, .int .i64 x.agg, .int .i64 x.col, .slice B x.body.length d, .int .i64 x.pos] 36)).alloc (.cells #[.string y.head.rel, .slice A' y.head.args.length c', .int .i64 y.agg, .int .i64 y.col, .slice B' y.body.length d', .int .i64 y.pos] 36)) := ⟨_, rfl⟩
      obtain ⟨b1, hb1⟩ : ∃ b, b = w.heap.size := ⟨_, rfl⟩
      obtain ⟨b2, hb2⟩ : ∃ b, b = w.heap.size + 1 := ⟨_, rfl⟩
      rw [← hW0] at HP0 HQ0 HB0 ⊢
      rw [← hb2] at HQ0 ⊢
      rw [← hb1] at HP0
      rw [show (Value.pointer (some ⟨w.heap.size, 0, none⟩)) = .pointer (some ⟨b1, 0, none⟩) by rw [hb1]]
      have HS := Lib.hid (RuS.of HP0.out HQ0.out HB0.out)
      clear hW0 hb1 hb2 HP0 HQ0 HB0
      first | (go_region_held2 (fun w' => w'.cell? ⟨b1, 0, none⟩ = some (.string x.head.rel) ∧ w'.cell? ⟨b1, 1, none⟩ = some (.slice A x.head.args.length c) ∧ w'.cell? ⟨b1, 2, none⟩ = some (.int .i64 x.agg) ∧ w'.cell? ⟨b1, 3, none⟩ = some (.int .i64 x.col) ∧ w'.cell? ⟨b1, 4, none⟩ = some (.slice B x.body.length d) ∧ w'.cell? ⟨b1, 5, none⟩ = some (.int .i64 x.pos) ∧ w'.cell? ⟨b2, 0, none⟩ = some (.string y.head.rel) ∧ w'.cell? ⟨b2, 1, none⟩ = some (.slice A' y.head.args.length c') ∧ w'.cell? ⟨b2, 2, none⟩ = some (.int .i64 y.agg) ∧ w'.cell? ⟨b2, 3, none⟩ = some (.int .i64 y.col) ∧ w'.cell? ⟨b2, 4, none⟩ = some (.slice B' y.body.length d') ∧ w'.cell? ⟨b2, 5, none⟩ = some (.int .i64 y.pos) ∧ b1 < w'.heap.size ∧ b2 < w'.heap.size ∧ Below w.heap.size w w')
        (first | (with_reducible assumption) | (with_reducible exact HS.out.step (Below.refl _ _).drew) | (with_reducible exact RuS.step (by assumption) hb) | go_keep)
        (first
          | (go_at_call 41; refine (CA.out _ ?_).mono ?_; exact RuS.low (by assumption); rintro e w' ⟨rfl, hb⟩)
          | (go_at_call 42; refine (aggregate_any _ _ _ _ _ _ _).mono ?_; rintro e w' ⟨rfl, hb⟩)
          | (go_at_call 43; refine (CF.out _ ?_).mono ?_; exact RuS.low (by assumption); rintro e w' ⟨rfl, hb⟩))) | fail
      all_goals
        go_wp2
        go_ret
        exact ⟨rfl, RuS.low (by assumption)⟩
theorem de_cells {W : World} {b o : Nat} {e : TDe} {A : Option Addr} {c : Nat} (h0 : W.cell? ⟨b, o, none⟩ = some (.string e.rel)) (h1 : W.cell? ⟨b, o + 1, none⟩ = some (.slice A e.kinds.length c)) (h2 : W.cell? ⟨b, o + 2, none⟩ = some (.int .i64 e.pos)) :
    ∀ (i : Nat) v, (([.string e.rel, .slice A e.kinds.length c, .int .i64 e.pos] : List Value))[i]? = some v → W.cell? ⟨b, o + i, none⟩ = some v := fun i v hv => by
  match i, hv with
  | 0, hv => cases hv; exact h0
  | 1, hv => cases hv; exact h1
  | 2, hv => cases hv; exact h2
  | n + 3, hv => simp at hv
theorem ru_cells {W : World} {b o : Nat} {e : TRu} {A : Option Addr} {c : Nat} {B : Option Addr} {d : Nat} (h0 : W.cell? ⟨b, o, none⟩ = some (.string e.head.rel)) (h1 : W.cell? ⟨b, o + 1, none⟩ = some (.slice A e.head.args.length c)) (h2 : W.cell? ⟨b, o + 2, none⟩ = some (.int .i64 e.agg))
    (h3 : W.cell? ⟨b, o + 3, none⟩ = some (.int .i64 e.col)) (h4 : W.cell? ⟨b, o + 4, none⟩ = some (.slice B e.body.length d)) (h5 : W.cell? ⟨b, o + 5, none⟩ = some (.int .i64 e.pos)) :
    ∀ (i : Nat) v, (([.string e.head.rel, .slice A e.head.args.length c, .int .i64 e.agg, .int .i64 e.col, .slice B e.body.length d, .int .i64 e.pos] : List Value))[i]? = some v → W.cell? ⟨b, o + i, none⟩ = some v := fun i v hv => by
  match i, hv with
  | 0, hv => cases hv; exact h0
  | 1, hv => cases hv; exact h1
  | 2, hv => cases hv; exact h2
  | 3, hv => cases hv; exact h3
  | 4, hv => cases hv; exact h4
  | 5, hv => cases hv; exact h5
  | n + 6, hv => simp at hv
set_option maxRecDepth 100000 in
set_option maxHeartbeats 2000000 in
theorem pgSame_is (x y : TPg) (A : Option Addr) (c : Nat) (B : Option Addr) (d : Nat) (A' : Option Addr) (c' : Nat) (B' : Option Addr) (d' : Nat) (w : World) (hV : PgV w x A B) (hV' : PgV w y A' B') :
    Calls Tryz.prog 10 #[.agg #[.slice A x.decls.length c, .slice B x.rules.length d], .agg #[.slice A' y.decls.length c', .slice B' y.rules.length d']] w fun r w' => r = .returned (.bool (samePg x y)) ∧ Below w.heap.size w w' := by
  have o1 : Own (w.alloc (.cells #[.slice A x.decls.length c, .slice B x.rules.length d] 26)) w.heap.size 26 [.slice A x.decls.length c, .slice B x.rules.length d] := heap_alloc_new _ _
  have o2 := heap_alloc_new (w.alloc (.cells #[.slice A x.decls.length c, .slice B x.rules.length d] 26)) (.cells #[.slice A' y.decls.length c', .slice B' y.rules.length d'] 26)
  simp only [World.size_alloc] at o2
  have HP0 : Hid (Own ((w.alloc (.cells #[.slice A x.decls.length c, .slice B x.rules.length d] 26)).alloc (.cells #[.slice A' y.decls.length c', .slice B' y.rules.length d'] 26)) w.heap.size 26 [.slice A x.decls.length c, .slice B x.rules.length d]) := o1.alloc _
  have HQ0 : Hid (Own ((w.alloc (.cells #[.slice A x.decls.length c, .slice B x.rules.length d] 26)).alloc (.cells #[.slice A' y.decls.length c', .slice B' y.rules.length d'] 26)) (w.heap.size + 1) 26 [.slice A' y.decls.length c', .slice B' y.rules.length d']) := o2
  have HB0 : Hid (Below w.heap.size w ((w.alloc (.cells #[.slice A x.decls.length c, .slice B x.rules.length d] 26)).alloc (.cells #[.slice A' y.decls.length c', .slice B' y.rules.length d'] 26))) := ((Below.refl _ _).alloc (Nat.le_refl _) _).alloc (by simp) _
  clear o1 o2
  have hd : samePg x y = (allTwo sameDe x.decls y.decls && allTwo sameRu x.rules y.rules) := rfl
  have CD : Hid (∀ W, Below w.heap.size w W → Calls Tryz.prog 19 #[.slice A x.decls.length c, .slice A' y.decls.length c', .func (.func 20) #[] #[]] W fun r w' => r = .returned (.bool (allTwo sameDe x.decls y.decls)) ∧ Below W.heap.size W w') := fun W hb =>
    eqfDe_any A A' c c' x.decls y.decls W hV.decls.1 hV'.decls.1 (fun j h h' => by
      obtain ⟨g, o, rfl, hgw, hc⟩ := hV.decls.at_ h
      obtain ⟨g', o', rfl, hgw', hc'⟩ := hV'.decls.at_ h'
      obtain ⟨a0, ⟨A1, c1, a1, hk⟩, a2, _⟩ := hc.pers (Pers.of hb)
      obtain ⟨e0, ⟨A2, c2, e1, hk'⟩, e2, _⟩ := hc'.pers (Pers.of hb)
      exact ⟨g, o, g', o', _, _, rfl, rfl, Nat.lt_of_lt_of_le hgw hb.size, Nat.lt_of_lt_of_le hgw' hb.size, rfl, rfl, by simp [Value.oneCell'], by simp [Value.oneCell'], de_cells a0 a1 a2, de_cells e0 e1 e2,
        fun W2 hb2 => deSame_is _ _ A1 c1 A2 c2 W2 (hk.int (Pers.of hb2)) (hk'.int (Pers.of hb2))⟩)
  have CR : Hid (∀ W, Below w.heap.size w W → Calls Tryz.prog 21 #[.slice B x.rules.length d, .slice B' y.rules.length d', .func (.func 22) #[] #[]] W fun r w' => r = .returned (.bool (allTwo sameRu x.rules y.rules)) ∧ Below W.heap.size W w') := fun W hb =>
    eqfRu_any B B' d d' x.rules y.rules W hV.rules.1 hV'.rules.1 (fun j h h' => by
      obtain ⟨g, o, rfl, hgw, hc⟩ := hV.rules.at_ h
      obtain ⟨g', o', rfl, hgw', hc'⟩ := hV'.rules.at_ h'
      obtain ⟨A1, c1, B1, d1, a0, a1, a2, a3, a4, a5, hL⟩ := (hc.pers (Pers.of hb)).open_
      obtain ⟨A2, c2, B2, d2, e0, e1, e2, e3, e4, e5, hL'⟩ := (hc'.pers (Pers.of hb)).open_
      exact ⟨g, o, g', o', _, _, rfl, rfl, Nat.lt_of_lt_of_le hgw hb.size, Nat.lt_of_lt_of_le hgw' hb.size, rfl, rfl, by simp [Value.oneCell'], by simp [Value.oneCell'], ru_cells a0 a1 a2 a3 a4 a5, ru_cells e0 e1 e2 e3 e4 e5,
        fun W2 hb2 => ruSame_is _ _ A1 c1 B1 d1 A2 c2 B2 d2 W2 (hL.below hb2) (hL'.below hb2)⟩)
  rw [hd]
  clear hd hV hV'
  generalize allTwo sameDe x.decls y.decls = vD at CD ⊢
  generalize allTwo sameRu x.rules y.rules = vR at CR ⊢
  cases vD with
  | false =>
    rw [Bool.false_and]
    clear CR
    go_enter Tryz.func10, Tryz.ntmps10
    go_wp2_with fail
    refine (CD.out _ HB0.out).mono ?_
    rintro r w1 ⟨rfl, hb⟩
    have HB1 : Hid (Below w.heap.size w w1) := HB0.out.trans (hb.mono HB0.out.size)
    have HP1 := Lib.hid (HP0.out.below hb)
    have HQ1 := Lib.hid (HQ0.out.below hb)
    clear hb
    go_wp2_with fail
    go_ret
    exact ⟨rfl, HB1.out⟩
  | true =>
    rw [Bool.true_and]
    go_enter Tryz.func10, Tryz.ntmps10
    go_wp2_with fail
    refine (CD.out _ HB0.out).mono ?_
    rintro r w1 ⟨rfl, hb⟩
    have HB1 : Hid (Below w.heap.size w w1) := HB0.out.trans (hb.mono HB0.out.size)
    have HP1 := Lib.hid (HP0.out.below hb)
    have HQ1 := Lib.hid (HQ0.out.below hb)
    clear hb
    have p1 := HP1.out.cell 1
    simp only [List.getElem?_cons_zero, List.getElem?_cons_succ] at p1
    have q1 := HQ1.out.cell 1
    simp only [List.getElem?_cons_zero, List.getElem?_cons_succ] at q1
    go_wp2_with fail
    refine (CR.out _ HB1.out).mono ?_
    rintro r w2 ⟨rfl, hb⟩
    have HB2 : Hid (Below w.heap.size w w2) := HB1.out.trans (hb.mono HB1.out.size)
    have HP2 := Lib.hid (HP1.out.below hb)
    have HQ2 := Lib.hid (HQ1.out.below hb)
    clear hb p1 q1
    go_wp2_with fail
    go_ret
    exact ⟨rfl, HB2.out⟩
end Go.Proofs.YtolnikpihedmbaaGreatDoor
