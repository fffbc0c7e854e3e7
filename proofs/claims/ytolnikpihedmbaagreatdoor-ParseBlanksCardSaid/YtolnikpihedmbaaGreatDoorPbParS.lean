/- The reader's items and heads. Conditions: as ParE's. -/
import Derived.Test.YtolnikpihedmbaaGreatDoorPbM
import Derived.Test.YtolnikpihedmbaaGreatDoorPbJ
set_option linter.unusedVariables false
set_option linter.unusedSimpArgs false
namespace Go.Proofs.YtolnikpihedmbaaGreatDoor
open Go.RowKit Go.Deep Go.Shelf

theorem wpList_append_done {P : Program} {ops : Array Oper} {rest : List Oper} {o : Oper} {a : Act} {w : World} {Q : Exit → Act → World → Prop} (hgd : o.guard = none) (s x : Operand) (t : TypeId)
    (hop : o.op = Op.call { callee := Callee.builtin Builtin.append, args := #[s, x], argTypes := #[t, t] }) (hty : o.type = t) (vs vx : Value) (hs : a.eval s = vs) (hx : a.eval x = vx) {v' : Value} {w' : World}
    (hrun : (Builtin.append_ #[t, t] t #[vs, vx]).run P w = .ok v' w') (h : wpList P ops Q rest (a.put o.dst v') w') : wpList P ops Q (o :: rest) a w :=
  wpList_plain hgd fun K hK => by
    unfold Oper.wp
    simp [execOp, hop, hty, resolve, invoke, builtin, hs, hx, hrun, Result.andThen]
    exact hK _ _ h
theorem owns_at {w w' : World} {base n k : Nat} {e : TypeId} {v : Value} {xs : List Value} (h : w.ownsRow base e k v n xs) (hk : ∀ g, v.ownBlock = some g → w'.heap[g]? = w.heap[g]?) : w'.ownsRow base e k v n xs :=
  ⟨h.1, h.2.imp id fun ⟨g, cap, cur, h1, h2, h3, h4⟩ => ⟨g, cap, cur, h1, h2, (hk g (by rw [h1]; rfl)).trans h3, h4⟩⟩
/-- another block is turned. -/
theorem Acc.off {base bx i b : Nat} {T : TypeId} {cells : List Value} {vv : Value} {xs : List TTm} {W : World} (h : Acc 4 57 T FTm base bx i cells vv xs W) (hb : b ≠ bx) (hv : some b ≠ vv.ownBlock) (cs : Array Value) : Acc 4 57 T FTm base bx i cells vv xs (W.setRow b cs) := by
  obtain ⟨h1, h2, ⟨css, h3⟩, h4, h5⟩ := h
  refine ⟨(setRow_other W b bx _ (fun e => hb e.symm)).trans h1, h2, ⟨css, owns_at h3.own (fun g hg => setRow_other W b g _ (fun e => hv (by rw [hg, e]))), h3.len, h3.each, fun j x cs' hx hc => ?_⟩, h4, by simpa using h5⟩
  have hf : FTm W cs' x := (h3.fact j x cs' hx hc).here
  exact fun W' _ _ => hf
/-- a rule's cells while its head is read. -/
abbrev hdL (x : TRu) (vv : Value) : List Value := [.string x.head.rel, vv, .int .i64 x.agg, .int .i64 x.col, .slice none 0 0, .int .i64 x.pos]
/-- an item under way. -/
structure ItI (R e bx b0 : Nat) (x : TRu) (vv : Value) (W0 : World) (s : PS) (W : World) : Prop where
  acc : Acc 4 57 36 FTm (bx + 1) bx 1 (hdL x vv) vv x.head.args W
  res : Own W b0 57 [.string noText, .int .i64 0, .int .i64 0, .string noText]
  rdr : Rdr R e W s
  kb : Kb R bx W0 W
  lo : bx < b0 ∧ R < bx ∧ some b0 ≠ vv.ownBlock
section
variable {R e bx b0 : Nat} {x : TRu} {vv : Value} {W0 W W' : World} {s s' : PS}
theorem ItI.kr (h : ItI R e bx b0 x vv W0 s W) (hk : Kr R W W') (hr : Rdr R e W' s') : ItI R e bx b0 x vv W0 s' W' := by
  have hl := h.lo
  exact ⟨h.acc.kr hk hl.2.1, hk.own h.res (by simp; omega), hr, h.kb.tr (hk.kb (by have := h.acc.own.lt; omega)), hl⟩
theorem ItI.agg (h : ItI R e bx b0 x vv W0 s W) (n : Int) : ItI R e bx b0 { x with agg := n } vv W0 s (W.setCell ⟨bx, 2, none⟩ (.int .i64 n)) := by
  have hl := h.lo
  have hb : Below bx W (W.setCell ⟨bx, 2, none⟩ (.int .i64 n)) := (Below.refl _ _).setCell (p := ⟨bx, 2, none⟩) (Nat.le_refl _) _
  have hk : Kept [bx] W (W.setCell ⟨bx, 2, none⟩ (.int .i64 n)) := (Kept.refl _ _).setCell (.inl (by simp)) _
  exact ⟨h.acc.put (j := 2) (by decide) (.int .i64 n), hk.own h.res (by simp; omega), h.rdr.low (hb.mono (by omega)), h.kb.tr (Kb.of hb), hl⟩
theorem ItI.col (h : ItI R e bx b0 x vv W0 s W) (n : Int) : ItI R e bx b0 { x with col := n } vv W0 s (W.setCell ⟨bx, 3, none⟩ (.int .i64 n)) := by
  have hl := h.lo
  have hb : Below bx W (W.setCell ⟨bx, 3, none⟩ (.int .i64 n)) := (Below.refl _ _).setCell (p := ⟨bx, 3, none⟩) (Nat.le_refl _) _
  have hk : Kept [bx] W (W.setCell ⟨bx, 3, none⟩ (.int .i64 n)) := (Kept.refl _ _).setCell (.inl (by simp)) _
  exact ⟨h.acc.put (j := 3) (by decide) (.int .i64 n), hk.own h.res (by simp; omega), h.rdr.low (hb.mono (by omega)), h.kb.tr (Kb.of hb), hl⟩
/-- what an item leaves. -/
def GotIt (R e bx : Nat) (x : TRu) (vv : Value) (W0 : World) (q : (TTm × Int × Int) × PS) (r : Ending) (W : World) : Prop :=
  r = .returned (tmV q.1.1) ∧ okTm q.1.1 ∧ Rdr R e W q.2 ∧ Acc 4 57 36 FTm (bx + 1) bx 1 (hdL { x with agg := q.1.2.1, col := q.1.2.2 } vv) vv x.head.args W ∧ Kb R bx W0 W
theorem ItI.got (h : ItI R e bx b0 x vv W0 s W) (cs : Array Value) {y : TRu} {t : TTm} (hy : y.head = x.head ∧ y.pos = x.pos) (ok : okTm t) : GotIt R e bx y vv W0 ((t, x.agg, x.col), s) (.returned (tmV t)) (W.setRow b0 cs) := by
  have hl := h.lo
  obtain ⟨⟨r, l⟩, ag, co, bo, po⟩ := y
  obtain ⟨⟨r', l'⟩, ag', co', bo', po'⟩ := x
  obtain ⟨h1, h2⟩ := hy
  simp only at h1 h2
  injection h1 with h3 h4
  subst h2 h3 h4
  exact ⟨rfl, ok, h.rdr.setRow (by omega) _, h.acc.off (by omega) hl.2.2 _, h.kb.tr ⟨rfl, rfl, rfl, by simp, fun k hk hn => setRow_other W b0 k _ (by omega)⟩⟩
end
set_option maxRecDepth 100000 in
set_option maxHeartbeats 4000000 in
theorem item_any (R e bx : Nat) (x : TRu) (vv : Value) (s : PS) (W : World) (h : Rdr R e W s) (hA : Acc 4 57 36 FTm (bx + 1) bx 1 (hdL x vv) vv x.head.args W) (hR : R < bx) (hlen : x.head.args.length ≤ 1000) :
    Calls Tryz.prog 67 #[.pointer (some ⟨R, 0, none⟩), .pointer (some ⟨bx, 0, none⟩)] W (GotIt R e bx x vv W (itemT e x s)) := by
  have hbx := hA.own.lt
  have hb : Below W.heap.size W (W.alloc (.cells #[.string noText, .int .i64 0, .int .i64 0, .string noText] 57)) := (Below.refl _ _).alloc (Nat.le_refl _) _
  obtain ⟨b0, hb0⟩ : ∃ b, b = W.heap.size := ⟨_, rfl⟩
  have HI : Hid (ItI R e bx b0 x vv W s (W.alloc (.cells #[.string noText, .int .i64 0, .int .i64 0, .string noText] 57))) := by
    rw [hb0]
    exact ⟨hA.below hb, heap_alloc_new _ _, h.below hb, Kb.of (hb.mono (by omega)), by omega, hR, fun e => by have := (hA.ownLt _ e.symm).2; omega⟩
  have HTm := Lib.hid (fun w (h : Rdr R e w s) => term_any R e s w h)
  have HT1 := Lib.hid (fun w (h : Rdr R e w s) => takeOne_any R e 2 s w h)
  have HLp := Lib.hid (fun s w (h : Rdr R e w s) => need_any R e cLp (by decide) s w h)
  have HRp := Lib.hid (fun s w (h : Rdr R e w s) => need_any R e cRp (by decide) s w h)
  have HNk := Lib.hid (fun s w (h : Rdr R e w s) => needKind_any R e 3 (by decide) s w h)
  have HOk := Lib.hid (fun s (h : Toks s.rest) => txt_ok (e := e) (s := s) (k := 3) (by decide) h)
  have hlp : bts cLp = ⟨#[40]⟩ := rfl
  have hrp : bts cRp = ⟨#[41]⟩ := rfl
  rw [hlp] at HLp
  rw [hrp] at HRp
  obtain ⟨A0, c0, hv⟩ := hA.val
  subst hv
  have HB0 := Lib.hid hb0
  clear h hb hA hlp hrp hb0
  unfold itemT
  by_cases h1 : x.agg ≠ 0
  · simp only [if_pos h1]
    have h1i : ¬ (x.agg = 0) := h1
    clear h1 HT1 HLp HRp HNk HOk
    go_enter Tryz.func67, Tryz.ntmps67
    have e0 := HI.out.acc.own.cell 0
    have e1 := HI.out.acc.own.cell 1
    have e2 := HI.out.acc.own.cell 2
    have e3 := HI.out.acc.own.cell 3
    have g2 := HI.out.acc.own.frozen 2
    have g3 := HI.out.acc.own.frozen 3
    have eq := HI.out.acc.own.lt
    simp only [hdL, List.getElem?_cons_zero, List.getElem?_cons_succ] at e0 e1 e2 e3
    go_wp2_with fail
    clear e0 e1 e2 e3 g2 g3 eq
    rw [show (Value.pointer (some ⟨W.heap.size, 0, none⟩)) = .pointer (some ⟨b0, 0, none⟩) by rw [HB0.out]]
    refine (HTm.out _ HI.out.rdr).mono ?_
    rintro r w5 ⟨rfl, ok, r5, k5⟩
    have I5 := Lib.hid (HI.out.kr k5 r5)
    have OK := Lib.hid ok
    clear r5 k5 ok HTm
    generalize termM e s = q at *
    obtain ⟨t, sp⟩ := q
    simp only at OK I5 ⊢
    have HRs := Lib.hid I5.out.res
    have HGt := Lib.hid (fun cs => I5.out.got (y := x) (t := t) cs ⟨rfl, rfl⟩ OK.out)
    go_wp2_with (first
      | (refine wpList_store_row (o := ⟨none, .store 57 _ _, _, _, _, _⟩) rfl 57 _ _ rfl b0 #[.string t.v, .int .i64 t.k, .int .i64 t.n, .string t.s] rfl rfl 57 _ HRs.out infoTtm rfl (by simp [Value.oneCell']) ?_)
      | fail)
    refine bodyPost_ret (v := .agg #[.string t.v, .int .i64 t.k, .int .i64 t.n, .string t.s]) (results_cell_row (P := Tryz.prog) rfl _ _ b0 57 _ (0, 0) _ rfl (HRs.out.setRow [.string t.v, .int .i64 t.k, .int .i64 t.n, .string t.s]) Tryz.underlying57 rfl infoTtm) rfl ?_
    exact HGt.out _
  · simp only [if_neg h1]
    have h0 : x.agg = 0 := by
      by_cases h9 : x.agg = 0
      · exact h9
      · exact absurd h9 h1
    clear h1
    have HT1' := Lib.hid HT1.out
    unfold take1 at HT1'
    by_cases h2 : got1 e s 2 = 0
    · have h2' : oneOf 2 (nx e s).2.1 = 0 := h2
      simp only [h2, h2', if_true] at HT1' ⊢
      clear HT1 HLp HRp HNk HOk h2 h2'
      go_enter Tryz.func67, Tryz.ntmps67
      have e0 := HI.out.acc.own.cell 0
      have e1 := HI.out.acc.own.cell 1
      have e2 := HI.out.acc.own.cell 2
      have e3 := HI.out.acc.own.cell 3
      have g2 := HI.out.acc.own.frozen 2
      have g3 := HI.out.acc.own.frozen 3
      have eq := HI.out.acc.own.lt
      simp only [hdL, List.getElem?_cons_zero, List.getElem?_cons_succ] at e0 e1 e2 e3
      rw [h0] at e2
      go_wp2_with fail
      refine (HT1'.out _ HI.out.rdr).mono ?_
      rintro r w2 ⟨rfl, r2, k2⟩
      have I2 := Lib.hid (HI.out.kr k2 r2)
      clear e0 e1 e2 e3 g2 g3 eq r2 k2
      have e0 := I2.out.acc.own.cell 0
      have e1 := I2.out.acc.own.cell 1
      have e2 := I2.out.acc.own.cell 2
      have e3 := I2.out.acc.own.cell 3
      have g2 := I2.out.acc.own.frozen 2
      have g3 := I2.out.acc.own.frozen 3
      have eq := I2.out.acc.own.lt
      simp only [hdL, List.getElem?_cons_zero, List.getElem?_cons_succ] at e0 e1 e2 e3
      have I3 := Lib.hid (I2.out.agg 0)
      go_wp2_with fail
      clear e0 e1 e2 e3 g2 g3 eq
      clear I2 HI
      rw [show (Value.pointer (some ⟨W.heap.size, 0, none⟩)) = .pointer (some ⟨b0, 0, none⟩) by rw [HB0.out]]
      refine (HTm.out _ I3.out.rdr).mono ?_
      rintro r w5 ⟨rfl, ok, r5, k5⟩
      have I5 := Lib.hid (I3.out.kr k5 r5)
      have OK := Lib.hid ok
      clear r5 k5 ok HTm
      generalize termM e s = q at *
      obtain ⟨t, sp⟩ := q
      simp only at OK I5 ⊢
      have HRs := Lib.hid I5.out.res
      have HGt := Lib.hid (fun cs => I5.out.got (y := x) (t := t) cs ⟨rfl, rfl⟩ OK.out)
      go_wp2_with (first
        | (refine wpList_store_row (o := ⟨none, .store 57 _ _, _, _, _, _⟩) rfl 57 _ _ rfl b0 #[.string t.v, .int .i64 t.k, .int .i64 t.n, .string t.s] rfl rfl 57 _ HRs.out infoTtm rfl (by simp [Value.oneCell']) ?_)
        | fail)
      refine bodyPost_ret (v := .agg #[.string t.v, .int .i64 t.k, .int .i64 t.n, .string t.s]) (results_cell_row (P := Tryz.prog) rfl _ _ b0 57 _ (0, 0) _ rfl (HRs.out.setRow [.string t.v, .int .i64 t.k, .int .i64 t.n, .string t.s]) Tryz.underlying57 rfl infoTtm) rfl ?_
      exact HGt.out _
    · have h2' : ¬ oneOf 2 (nx e s).2.1 = 0 := h2
      simp only [h2, h2', if_false] at HT1' ⊢
      have h2i : ¬ ((got1 e s 2 : Int) = 0) := by omega
      clear HT1 HTm h2 h2'
      generalize (got1 e s 2 : Int) = ag at *
      go_enter Tryz.func67, Tryz.ntmps67
      have e0 := HI.out.acc.own.cell 0
      have e1 := HI.out.acc.own.cell 1
      have e2 := HI.out.acc.own.cell 2
      have e3 := HI.out.acc.own.cell 3
      have g2 := HI.out.acc.own.frozen 2
      have g3 := HI.out.acc.own.frozen 3
      have eq := HI.out.acc.own.lt
      simp only [hdL, List.getElem?_cons_zero, List.getElem?_cons_succ] at e0 e1 e2 e3
      rw [h0] at e2
      go_wp2_with fail
      refine (HT1'.out _ HI.out.rdr).mono ?_
      rintro r w2 ⟨rfl, r2, k2⟩
      have I2 := Lib.hid (HI.out.kr k2 r2)
      clear e0 e1 e2 e3 g2 g3 eq r2 k2
      have e0 := I2.out.acc.own.cell 0
      have e1 := I2.out.acc.own.cell 1
      have e2 := I2.out.acc.own.cell 2
      have e3 := I2.out.acc.own.cell 3
      have g2 := I2.out.acc.own.frozen 2
      have g3 := I2.out.acc.own.frozen 3
      have eq := I2.out.acc.own.lt
      simp only [hdL, List.getElem?_cons_zero, List.getElem?_cons_succ] at e0 e1 e2 e3
      have I4 := Lib.hid ((I2.out.agg ag).col (x.head.args.length : Int))
      go_wp2_with fail
      clear e0 e1 e2 e3 g2 g3 eq
      clear I2 HI
      rw [show (Value.pointer (some ⟨W.heap.size, 0, none⟩)) = .pointer (some ⟨b0, 0, none⟩) by rw [HB0.out]]
      refine (HLp.out _ _ I4.out.rdr).mono ?_
      rintro r w5 ⟨rfl, r5, k5⟩
      have I5 := Lib.hid (I4.out.kr k5 r5)
      clear r5 k5 HLp I4
      generalize needT e (adv s) cLp = s5 at *
      have HOk5 := Lib.hid (HOk.out s5 I5.out.rdr.tok)
      have HNk5 := Lib.hid (HNk.out s5)
      generalize needK e s5 3 = q at *
      obtain ⟨nt, s6⟩ := q
      simp only at HOk5 HNk5 ⊢
      generalize bts nt = nm at *
      go_wp2_with fail
      refine (HNk5.out _ I5.out.rdr).mono ?_
      rintro r w6 ⟨rfl, r6, k6⟩
      have I6 := Lib.hid (I5.out.kr k6 r6)
      clear r6 k6 HNk HNk5 I5
      go_wp2_with fail
      refine (HRp.out _ _ I6.out.rdr).mono ?_
      rintro r w7 ⟨rfl, r7, k7⟩
      have I7 := Lib.hid (I6.out.kr k7 r7)
      clear r7 k7 HRp I6
      have HRs := Lib.hid I7.out.res
      have HGt := Lib.hid (fun cs => I7.out.got (y := x) (t := ⟨nm, 0, 0, noText⟩) cs ⟨rfl, rfl⟩ ⟨HOk5.out, no_ok⟩)
      go_wp2_with (first
        | (refine wpList_store_row (o := ⟨none, .store 57 _ _, _, _, _, _⟩) rfl 57 _ _ rfl b0 #[.string nm, .int .i64 0, .int .i64 0, .string noText] rfl rfl 57 _ HRs.out infoTtm rfl (by simp [Value.oneCell']) ?_)
        | fail)
      refine bodyPost_ret (v := .agg #[.string nm, .int .i64 0, .int .i64 0, .string noText]) (results_cell_row (P := Tryz.prog) rfl _ _ b0 57 _ (0, 0) _ rfl (HRs.out.setRow [.string nm, .int .i64 0, .int .i64 0, .string noText]) Tryz.underlying57 rfl infoTtm) rfl ?_
      exact HGt.out _
end Go.Proofs.YtolnikpihedmbaaGreatDoor
