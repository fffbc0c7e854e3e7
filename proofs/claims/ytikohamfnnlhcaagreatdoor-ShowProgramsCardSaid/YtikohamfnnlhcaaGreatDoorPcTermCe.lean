/- The law's copy of a program in the document's form. Conditions: at most 30,000 of everything. -/
import Derived.Test.YtikohamfnnlhcaaGreatDoorScK
set_option linter.unusedVariables false
set_option linter.unusedSimpArgs false
namespace Go.Proofs.YtikohamfnnlhcaaGreatDoor
open Go.RowKit Go.Deep Go.Shelf

/-- a program's copy. -/
def GotPS (n0 : Nat) (w : World) (p : TPg) (e : Ending) (w' : World) : Prop := ∃ A c B d, e = .returned (pgV p A c B d) ∧ Stab w' (fun k => k < n0 ∨ w.heap.size ≤ k) (fun W => PgV W p A B) ∧ Below w.heap.size w w'
set_option maxRecDepth 100000 in
set_option maxHeartbeats 4000000 in
theorem Document_copyS (p : TPg) (A : Option Addr) (c : Nat) (B : Option Addr) (d : Nat) (w0 w : World) (hsz : SmallP p) (hV0 : PgV w0 p A B) (hw0 : Below w0.heap.size w0 w) :
    Calls Tryz.prog 8 #[pgV p A c B d] w (GotPS w0.heap.size w p) := by
  have hV := hV0.below hw0
  have HV0 := Lib.hid hV0
  have HW0 := Lib.hid hw0
  have hsz0 := hw0.size
  clear hV0 hw0
  have HV := Lib.hid hV
  have HSz := Lib.hid hsz
  have hd30 := hsz.1
  have hr30 := hsz.2.1
  have hdl := hV.decls.1
  have hrl := hV.rules.1
  have o1 : Own (w.alloc (.cells #[.slice A p.decls.length c, .slice B p.rules.length d] 25)) w.heap.size 25 [.slice A p.decls.length c, .slice B p.rules.length d] := heap_alloc_new _ _
  have o2 := heap_alloc_new (w.alloc (.cells #[.slice A p.decls.length c, .slice B p.rules.length d] 25)) (.cells #[.slice none 0 0, .slice none 0 0] 31)
  have o3 := heap_alloc_new ((w.alloc (.cells #[.slice A p.decls.length c, .slice B p.rules.length d] 25)).alloc (.cells #[.slice none 0 0, .slice none 0 0] 31)) (.cells #[.slice none 0 0, .slice none 0 0] 31)
  simp only [World.size_alloc] at o2 o3
  have o2' : Own ((w.alloc (.cells #[.slice A p.decls.length c, .slice B p.rules.length d] 25)).alloc (.cells #[.slice none 0 0, .slice none 0 0] 31)) (w.heap.size + 1) 31 [.slice none 0 0, .slice none 0 0] := o2
  have HX0 : Hid (CpI 3 101 31 FDe w0.heap.size (w.heap.size + 1 + 1 + 1) w (w.heap.size + 1) (w.heap.size + 1 + 1) [.slice none 0 0, .slice none 0 0] [(.slice none 0 0), .slice none 0 0] (.slice none 0 0) (p.decls.take 0) [] (((w.alloc (.cells #[.slice A p.decls.length c, .slice B p.rules.length d] 25)).alloc (.cells #[.slice none 0 0, .slice none 0 0] 31)).alloc (.cells #[.slice none 0 0, .slice none 0 0] 31))) :=
    ⟨o3, o2'.alloc _, GR.nil _, hsz0, Nat.lt_succ_self _, by simp, (((Below.refl _ _).alloc (Nat.le_refl _) _).alloc (by simp) _).alloc (by simp; omega) _, Nat.le_succ _, Nat.lt_succ_self _⟩
  have HO1 := Lib.hid ((o1.alloc (.cells #[.slice none 0 0, .slice none 0 0] 31)).alloc (.cells #[.slice none 0 0, .slice none 0 0] 31))
  clear o1 o2 o3 o2' hV hsz
  obtain ⟨W, hW⟩ : ∃ W, W = (((w.alloc (.cells #[.slice A p.decls.length c, .slice B p.rules.length d] 25)).alloc (.cells #[.slice none 0 0, .slice none 0 0] 31)).alloc (.cells #[.slice none 0 0, .slice none 0 0] 31)) := ⟨_, rfl⟩
  obtain ⟨b1, hb1⟩ : ∃ b, b = w.heap.size := ⟨_, rfl⟩
  obtain ⟨b2, hb2⟩ : ∃ b, b = w.heap.size + 1 := ⟨_, rfl⟩
  obtain ⟨b3, hb3⟩ : ∃ b, b = w.heap.size + 1 + 1 := ⟨_, rfl⟩
  rw [← hW, ← hb3, ← hb2] at HX0
  rw [← hW, ← hb1] at HO1
  obtain ⟨v0, hv0⟩ : ∃ v, v = Value.slice A p.decls.length c := ⟨_, rfl⟩
  rw [← hv0] at HO1
  clear hv0
  have HW := Lib.hid hW
  have HB1 := Lib.hid hb1
  have HB2 := Lib.hid hb2
  have HB3 := Lib.hid hb3
  clear hW hb1 hb2 hb3
  unfold pgV
  go_enter Tryz.func8, Tryz.ntmps8
  go_wp2_with fail
  rw [← HW.out, ← HB3.out, ← HB2.out]
  rw [show (Value.pointer (some ⟨w.heap.size, 0, none⟩)) = .pointer (some ⟨b1, 0, none⟩) by rw [HB1.out]]
  go_loopw [12] (fun i wr => ∃ (j : Nat) (vv : Value) (css : List (List Value)), j ≤ p.decls.length ∧ i = .int .i64 j ∧ Hid (CpI 3 101 31 FDe w0.heap.size (b3 + 1) w b2 b3 [.slice none 0 0, .slice none 0 0] [vv, .slice none 0 0] vv (p.decls.take j) css wr) ∧ Hid (Own wr b1 25 [v0, .slice B p.rules.length d])) (fun i _ => p.decls.length - (intOf i).toNat)
  case atStart => exact ⟨0, _, _, Nat.zero_le _, rfl, HX0, HO1⟩
  case round =>
    obtain ⟨j, vv, css, hj, rfl, HX, HO⟩ := hrel
    have x0 := HX.out.own.cell 0
    have xq := HX.out.own.lt
    simp only [List.getElem?_cons_zero, List.getElem?_cons_succ] at x0
    by_cases hlt : j < p.decls.length
    · obtain ⟨b, o, rfl, hbw, hc⟩ := HV0.out.decls.at_ hlt
      obtain ⟨d0, ⟨A1, c1, d1, hkr⟩, d2, hok⟩ := hc
      have hb0r : Below w0.heap.size w0 wr := HW0.out.trans (HX.out.bel.mono hsz0)
      have d0 := (hb0r.cell (p := ⟨b, _, none⟩) hbw).trans d0
      have d1 := (hb0r.cell (p := ⟨b, _, none⟩) hbw).trans d1
      have d2 := (hb0r.cell (p := ⟨b, _, none⟩) hbw).trans d2
      have HT := Lib.hid (take_snoc' hlt)
      generalize p.decls[j] = y at *
      have hbx : Below wr.heap.size wr ((wr.alloc (.cells #[.string y.rel, .slice A1 y.kinds.length c1, .int .i64 y.pos] 100)).alloc (.cells #[.string y.rel, .slice A1 y.kinds.length c1, .int .i64 y.pos] 101)) := ((Below.refl _ _).alloc (Nat.le_refl _) _).alloc (by simp) _
      have hlj : (p.decls.take j).length = j := by rw [List.length_take]; omega
      have hst : Stab ((wr.alloc (.cells #[.string y.rel, .slice A1 y.kinds.length c1, .int .i64 y.pos] 100)).alloc (.cells #[.string y.rel, .slice A1 y.kinds.length c1, .int .i64 y.pos] 101)) (fun k => (k < w0.heap.size ∨ b3 + 1 ≤ k) ∧ some k ≠ vv.ownBlock) (fun W => FDe W [.string y.rel, .slice A1 y.kinds.length c1, .int .i64 y.pos] y) :=
        (Stab.old (n := 0) (w := w0) (F := fun W => FDe W [.string y.rel, .slice A1 y.kinds.length c1, .int .i64 y.pos] y) (fun W hp => ⟨A1, c1, rfl, hkr.int hp, hok⟩)).keep (Nat.le_trans hb0r.size hbx.size)
          (fun k hk _ => ((hb0r.trans (hbx.mono hb0r.size)).block k hk)) (fun k hk _ => ⟨.inl hk, fun e => by have q1 := (HX.out.row.lt k e.symm).1; have q2 := HB3.out; omega⟩)
      obtain ⟨A3, c3, w5, hrun, hblk, hsz5, hN⟩ := (HX.out.below hbx).app (P := Tryz.prog) (S := 28) Tryz.underlying28 infoRde rfl (by decide) y [.string y.rel, .slice A1 y.kinds.length c1, .int .i64 y.pos] rfl (by simp [Value.oneCell']) (heap_alloc_new _ _)
        hst (by rw [hlj]; omega) (by decide)
      rw [hlj] at hrun hN
      simp only [World.size_alloc] at hrun
      have y5 := (hblk b3 (by have := hbx.size; omega) (by exact HX.out.boxOff)).trans (hbx.block b3 xq)
      have hq5 : b3 < w5.heap.size := by have := hbx.size; omega
      have y0 : w5.cell? ⟨b3, 0, none⟩ = some vv := (World.cell?_of_block (w := wr) y5).trans x0
      have yf : w5.frozen? ⟨b3, 0, none⟩ = false := Own.frozen (y5.trans HX.out.own) 0
      have HN := Lib.hid (hN 0).1
      have HON : Hid (Own (w5.setCell ⟨b3, 0, none⟩ (.slice A3 (j + 1) c3)) b1 25 [v0, .slice B p.rules.length d]) := ((hN 0).2 b1 (by have := HB1.out; have := HB3.out; omega) (by have := HB1.out; have := HB3.out; omega)).trans ((hbx.block b1 HO.out.lt).trans HO.out)
      rw [HT.out] at HN
      clear hN hblk hbx hlj hok y5 HT hst hkr hb0r
      go_wp2_with (refine wpList_append_run (o := ⟨some 26, _, _, _, _, _⟩) rfl (.tmp 17) (.tmp 25) 28 rfl rfl _ _ rfl rfl hrun ?_)
      go_roundw
      case rel => exact ⟨j + 1, _, _, by omega, by go_num, HN, HON⟩
      case measure => simp [intOf]; omega
    · have hjk : j = p.decls.length := by omega
      obtain ⟨A3, c3, hv3⟩ := HX.out.row.val
      subst hv3
      subst hjk
      have hX := HX.out
      rw [List.take_length] at hX
      obtain ⟨bs, hbs⟩ : ∃ bs, bs = wr.heap.size := ⟨_, rfl⟩
      have HC2 : Hid (CpI 6 70 31 FRu 0 bs w b2 b3 [.slice none 0 0, .slice none 0 0] [.slice A3 p.decls.length c3, (.slice none 0 0)] (.slice none 0 0) (p.rules.take 0) [] wr) := ⟨hX.own, hX.res, GR.nil _, Nat.zero_le _, by rw [hbs]; exact hX.own.lt, by rw [hbs]; exact Nat.le_refl _, hX.bel, hX.lo, hX.lt⟩
      have HD : Hid (Stab wr (fun k => (k < w0.heap.size ∨ w.heap.size ≤ k) ∧ k < bs ∧ k ≠ b3 ∧ k ≠ b2) (fun W => Rg 3 DeC W A3 p.decls)) := (hX.row.rg rfl FDe.c hdl).more (fun k hk hp => ⟨by have := HB3.out; rcases hp with hp | hp <;> omega, by rw [hbs]; exact hk, by have := HB3.out; have := HB2.out; rcases hp with hp | hp <;> omega, by have := HB3.out; have := HB2.out; rcases hp with hp | hp <;> omega⟩)
      have g1 := HO.out.cell 1
      have gq := HO.out.lt
      simp only [List.getElem?_cons_zero, List.getElem?_cons_succ] at g1
      clear x0 hX HX hbs HO
      obtain ⟨wq, hwq⟩ : ∃ wq, wq = wr := ⟨_, rfl⟩
      subst hwq
      go_wp2_with fail
      clear g1 gq xq
      go_loopw [32] (fun i wr => ∃ (j : Nat) (vv : Value) (css : List (List Value)), j ≤ p.rules.length ∧ i = .int .i64 j ∧ Hid (CpI 6 70 31 FRu 0 bs w b2 b3 [.slice none 0 0, .slice none 0 0] [.slice A3 p.decls.length c3, vv] vv (p.rules.take j) css wr) ∧ Hid (Stab wr (fun k => (k < w0.heap.size ∨ w.heap.size ≤ k) ∧ k < bs ∧ k ≠ b3 ∧ k ≠ b2) (fun W => Rg 3 DeC W A3 p.decls))) (fun i _ => p.rules.length - (intOf i).toNat)
      case atStart => exact ⟨0, _, _, Nat.zero_le _, rfl, HC2, HD⟩
      case round =>
        obtain ⟨j, vv, css, hj, rfl, HX, HS⟩ := hrel
        have x1 := HX.out.own.cell 1
        have xq := HX.out.own.lt
        simp only [List.getElem?_cons_zero, List.getElem?_cons_succ] at x1
        by_cases hlt : j < p.rules.length
        · obtain ⟨b, o, rfl, hbw, hc⟩ := HV.out.rules.at_ hlt
          have HT := Lib.hid (take_snoc' hlt)
          have HSy := Lib.hid (HSz.out.2.2 p.rules[j] (List.getElem_mem hlt))
          have HLJ : Hid ((p.rules.take j).length = j) := by show _ = _; rw [List.length_take]; omega
          obtain ⟨A1, c1, B1, d1, k0, k1, k2, k3, k4, k5, hRV⟩ := (hc.pers (Pers.of HX.out.bel)).open_
          have HC : Hid (∀ W, Below wr.heap.size wr W → Calls Tryz.prog 15 #[ruV p.rules[j] A1 c1 B1 d1] W (GotR W p.rules[j])) := fun W hb => Ruled_copy p.rules[j] A1 c1 B1 d1 W HSy.out (hRV.below hb)
          clear hc hRV HSy
          generalize p.rules[j] = y at *
          unfold ruV at HC
          go_wp2_with fail
          have HWX : Hid (Below wr.heap.size wr (wr.alloc (.cells #[.string y.head.rel, .slice A1 y.head.args.length c1, .int .i64 y.agg, .int .i64 y.col, .slice B1 y.body.length d1, .int .i64 y.pos] 52)).drew) := ((Below.refl _ _).alloc (Nat.le_refl _) _).drew
          go_region_law (first
            | (refine step_run (o := ⟨some 41, _, _, _, _, _⟩) rfl (.tmp 37) (.tmp 40) 29 rfl rfl _ _ rfl rfl hrun ?_)
            | (refine step_call (o := ⟨some 39, _, _, _, _, _⟩) rfl (f := 15) (args := #[.agg #[.string y.head.rel, .slice A1 y.head.args.length c1, .int .i64 y.agg, .int .i64 y.col, .slice B1 y.body.length d1, .int .i64 y.pos]]) (by simp only [execOp, resolve, Act.eval, List.map_toArray, List.map_cons, List.map_nil]; kernel_rfl) ((HC.out _ HWX.out).mono ?_)
               rintro e w3 ⟨A4, c4, B4, d4, rfl, hE, hb3⟩
               refine ⟨_, rfl, ?_⟩
               have hb13 : Below wr.heap.size wr w3 := HWX.out.trans (hb3.mono HWX.out.size)
               have hbx := (HX.out.below hb13).below ((Below.refl w3.heap.size w3).alloc (o := .cells #[.string y.head.rel, .slice A4 y.head.args.length c4, .int .i64 y.agg, .int .i64 y.col, .slice B4 y.body.length d4, .int .i64 y.pos] 70) (Nat.le_refl _))
               have hna : (w3.alloc (.cells #[.string y.head.rel, .slice A4 y.head.args.length c4, .int .i64 y.agg, .int .i64 y.col, .slice B4 y.body.length d4, .int .i64 y.pos] 70)).heap.size = w3.heap.size + 1 := by simp
               have hst : Stab (w3.alloc (.cells #[.string y.head.rel, .slice A4 y.head.args.length c4, .int .i64 y.agg, .int .i64 y.col, .slice B4 y.body.length d4, .int .i64 y.pos] 70)) (fun k => (k < 0 ∨ bs ≤ k) ∧ some k ≠ vv.ownBlock) (fun W => FRu W [.string y.head.rel, .slice A4 y.head.args.length c4, .int .i64 y.agg, .int .i64 y.col, .slice B4 y.body.length d4, .int .i64 y.pos] y) :=
                 (hE.below ((Below.refl w3.heap.size w3).alloc (o := .cells #[.string y.head.rel, .slice A4 y.head.args.length c4, .int .i64 y.agg, .int .i64 y.col, .slice B4 y.body.length d4, .int .i64 y.pos] 70) (Nat.le_refl _))).keep (Nat.le_refl _) (fun _ _ _ => rfl) (fun k hk hp => by
                   have q1 := HWX.out.size
                   have q2 := HX.out.sz
                   refine ⟨.inr (by omega), fun e => ?_⟩
                   have q3 := (HX.out.row.lt k e.symm).2
                   simp at q1 hp
                   omega) |>.imp (fun W h => ⟨A4, c4, B4, d4, rfl, h⟩)
               obtain ⟨A5, c5, w5, hrun, hblk, hsz5, hN⟩ := hbx.app (P := Tryz.prog) (S := 29) Tryz.underlying29 infoRr rfl (by decide) y [.string y.head.rel, .slice A4 y.head.args.length c4, .int .i64 y.agg, .int .i64 y.col, .slice B4 y.body.length d4, .int .i64 y.pos] rfl (by simp [Value.oneCell']) (heap_alloc_new _ _) hst (by rw [HLJ.out]; omega) (by decide)
               rw [HLJ.out] at hrun hN
               rw [HT.out] at hN
               have y5 := (hblk b3 (by rw [hna]; have := hb13.size; omega) HX.out.boxOff).trans ((((Below.refl w3.heap.size w3).alloc (Nat.le_refl _) _).block b3 (by have := hb13.size; omega)).trans (hb13.block b3 xq))
               have hq5 : b3 < w5.heap.size := by rw [hna] at hsz5; have := hb13.size; omega
               have y1 : w5.cell? ⟨b3, 1, none⟩ = some vv := (World.cell?_of_block (w := wr) y5).trans x1
               have yf : w5.frozen? ⟨b3, 1, none⟩ = false := Own.frozen (y5.trans HX.out.own) 1
               have z1 : w3.cell? ⟨b3, 1, none⟩ = some vv := (hb13.cell (p := ⟨b3, 1, none⟩) xq).trans x1
               have zq : b3 < w3.heap.size := by have := hb13.size; omega
               have HN := Lib.hid (hN 1).1
               have HSN : Hid (Stab (w5.setCell ⟨b3, 1, none⟩ (.slice A5 (j + 1) c5)) (fun k => (k < w0.heap.size ∨ w.heap.size ≤ k) ∧ k < bs ∧ k ≠ b3 ∧ k ≠ b2) (fun W => Rg 3 DeC W A3 p.decls)) :=
                 HS.out.keep (by have := hb13.size; rw [hna] at hsz5; simp; omega) (fun k hk hp => ((hN 1).2 k hp.2.1 hp.2.2.1).trans ((((Below.refl w3.heap.size w3).alloc (Nat.le_refl _) _).block k (by have := hb13.size; omega)).trans (hb13.block k hk))) (fun _ _ h => h)
               clear hN hblk hbx hst y5 hsz5 hna hE hb3 hb13))
          all_goals
            go_wp2
            go_roundw
            case rel => exact ⟨j + 1, _, _, by omega, by go_num, HN, HSN⟩
            case measure => simp [intOf]; omega
        · have hjk : j = p.rules.length := by omega
          obtain ⟨B3, d3, hv3⟩ := HX.out.row.val
          subst hv3
          subst hjk
          have hX := HX.out
          rw [List.take_length] at hX
          have HOo := Lib.hid hX.own
          have HRs := Lib.hid hX.res
          have HXX := Lib.hid hX
          clear x1 hX HX
          go_wp2_with (first
            | (refine wpList_load_row (o := ⟨some 44, _, _, _, _, _⟩) rfl 31 _ rfl b3 rfl 31 #[.slice A3 p.decls.length c3, .slice B3 p.rules.length d3] (0, 0) _ HOo.out Tryz.underlying31 rfl infoRpg ?_)
            | (refine wpList_store_row (o := ⟨none, .store 31 _ _, _, _, _, _⟩) rfl 31 _ _ rfl b2 #[.slice A3 p.decls.length c3, .slice B3 p.rules.length d3] rfl rfl 31 _ HRs.out infoRpg rfl (by simp [Value.oneCell']) ?_))
          have hrow := setRow_heap wr b2 _ #[.slice A3 p.decls.length c3, .slice B3 p.rules.length d3] _ _ HRs.out
          have hkr : Kept [b2] wr (wr.setRow b2 #[.slice A3 p.decls.length c3, .slice B3 p.rules.length d3]) := ⟨rfl, rfl, rfl, by simp, fun k _ hn => setRow_other wr b2 k _ (by simpa using hn)⟩
          obtain ⟨q2, q3⟩ := HXX.out.done FRu.c hrl hkr
          have q5 := HXX.out.lt
          have q6 := HXX.out.lb
          have q7 := HXX.out.sz
          refine bodyPost_ret (v := .agg #[.slice A3 p.decls.length c3, .slice B3 p.rules.length d3]) (results_cell_row (P := Tryz.prog) rfl _ _ b2 31 _ (0, 0) _ rfl hrow Tryz.underlying31 rfl infoRpg) rfl ?_
          have q4 := HXX.out.lo
          have q8 := HB2.out
          have q9 := HB3.out
          have hst : Stab (wr.setRow b2 #[.slice A3 p.decls.length c3, .slice B3 p.rules.length d3]) (fun k => k < w0.heap.size ∨ w.heap.size ≤ k) (fun W => PgV W p A3 B3) :=
            ((HS.out.keep (P' := fun k => k < w0.heap.size ∨ w.heap.size ≤ k) hkr.size (fun k hk hp => hkr.block k hk (by simp only [List.mem_singleton]; exact hp.2.2.2)) (fun k _ h => h.1)).and (q2.more (fun k _ hp => by rcases hp with hp | hp <;> omega))).imp (fun W h => ⟨h.1, h.2⟩)
          exact ⟨A3, c3, B3, d3, rfl, hst, q3⟩
end Go.Proofs.YtikohamfnnlhcaaGreatDoor
