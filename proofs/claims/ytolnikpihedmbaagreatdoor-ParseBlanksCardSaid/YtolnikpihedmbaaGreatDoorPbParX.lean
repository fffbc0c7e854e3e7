/- The reader's programs. Conditions: as ParE's. -/
import Derived.Test.YtolnikpihedmbaaGreatDoorPbM
import Derived.Test.YtolnikpihedmbaaGreatDoorPbParV
import Derived.Test.YtolnikpihedmbaaGreatDoorPbQ
set_option linter.unusedVariables false
set_option linter.unusedSimpArgs false
namespace Go.Proofs.YtolnikpihedmbaaGreatDoor
open Go.RowKit Go.Deep Go.Shelf

theorem infoTpg2 : (Tryz.prog.info? 26).map (·.size) = some 2 := by kernel_rfl
theorem infoTde9 : (Tryz.prog.info? 70).map (fun i => (i.zero, i.size, i.bytes)) = some (some (.agg #[.string noText, .slice none 0 0, .int .i64 0]), 3, 48) := by kernel_rfl
theorem infoTru9 : (Tryz.prog.info? 36).map (fun i => (i.zero, i.size, i.bytes)) = some (some (.agg #[.string noText, .slice none 0 0, .int .i64 0, .int .i64 0, .slice none 0 0, .int .i64 0]), 6, 88) := by kernel_rfl
/-- what reading a program leaves. -/
def GotPg (R e : Nat) (W : World) (q : TPg × PS) (r : Ending) (W' : World) : Prop :=
  ∃ A c B d, r = .returned (pgV q.1 A c B d) ∧ Stab W' (fun k => W.heap.size ≤ k) (fun W => PgV W q.1 A B) ∧ Rdr R e W' q.2 ∧ Kr R W W'
structure PgI (R e : Nat) (w : World) (b0 b3 : Nat) (p : TPg) (vd vr : Value) (sp : PS) (W : World) : Prop where
  own : Own W b3 26 [vd, vr]
  res : Own W b0 26 [.slice none 0 0, .slice none 0 0]
  two : Two 3 70 FDe 6 36 FRu (b3 + 1) vd p.decls vr p.rules W
  rdr : Rdr R e W sp
  kr : Kr R w W
  lo : w.heap.size ≤ b0 ∧ b0 < b3 ∧ R < w.heap.size
section
variable {R e b0 b3 : Nat} {w W W' : World} {p : TPg} {vd vr : Value} {sp sp' : PS}
theorem PgI.kept (h : PgI R e w b0 b3 p vd vr sp W) (hk : Kr R W W') (hr : Rdr R e W' sp') : PgI R e w b0 b3 p vd vr sp' W' := by
  have hl := h.lo
  exact ⟨hk.own h.own (by simp; omega), hk.own h.res (by simp; omega), h.two.kb hk.size (fun k hk1 hb => hk.block k hk1 (by simp; omega)), hr, Kr.tr h.kr hk, hl⟩
theorem PgI.vals (h : PgI R e w b0 b3 p vd vr sp W) : (∃ A c, vd = .slice A p.decls.length c) ∧ ∃ A c, vr = .slice A p.rules.length c := by
  obtain ⟨c1, h1⟩ := h.two.fst
  obtain ⟨c2, h2⟩ := h.two.snd
  exact ⟨h1.val, h2.val⟩
theorem PgI.fin {A B : Option Addr} {c d : Nat} (h : PgI R e w b0 b3 p (.slice A p.decls.length c) (.slice B p.rules.length d) sp W) (hd : p.decls.length ≤ 100000) (hr : p.rules.length ≤ 100000) (cs : Array Value) :
    GotPg R e w (p, sp) (.returned (pgV p A c B d)) (W.setRow b0 cs) := by
  have hl := h.lo
  obtain ⟨c1, h1⟩ := h.two.fst
  obtain ⟨c2, h2⟩ := h.two.snd
  refine ⟨A, c, B, d, rfl, ?_, h.rdr.setRow (by omega) _, Kept.setRow h.kr (.inr hl.1) _⟩
  exact (((h1.rg rfl FDe.c (by omega)).and (h2.rg rfl FRu.c (by omega))).imp (G := fun W => PgV W p A B) (fun W h => ⟨h.1, h.2⟩)).keep (by simp) (fun k hk hp => setRow_other W b0 k _ (by omega)) (fun k hk hp => by show w.heap.size ≤ k; have h9 : b3 + 1 ≤ k := hp; omega)
/-- a declaration more. -/
theorem PgI.decl {n2 : Nat} {A0 : Option Addr} {c0 : Nat} {x : TDe} {cs : List Value} (h : PgI R e w b0 b3 p (.slice A0 p.decls.length c0) vr sp W) (hcl : cs.length = 3) (h1 : ∀ u ∈ cs, u.oneCell' = true) (hn : b3 + 1 ≤ n2) (ho : ∀ k, (some k = (Value.slice A0 p.decls.length c0).ownBlock ∨ some k = vr.ownBlock) → k < n2)
    (hx : Stab W (fun k => n2 ≤ k) (fun W => FDe W cs x)) (hlen : p.decls.length ≤ 100000) :
    ∃ A c w5, (Builtin.append_ #[23, 23] 23 #[.slice A0 p.decls.length c0, .slice (some ⟨W.heap.size, 0, none⟩) 1 1]).run Tryz.prog (W.alloc (.cells cs.toArray 70)) = .ok (.slice A (p.decls.length + 1) c) w5 ∧
      Own w5 b3 26 [.slice A0 p.decls.length c0, vr] ∧ PgI R e w b0 b3 ⟨p.decls ++ [x], p.rules⟩ (.slice A (p.decls.length + 1) c) vr sp (w5.setCell ⟨b3, 0, none⟩ (.slice A (p.decls.length + 1) c)) := by
  have hl := h.lo
  have hb : Below W.heap.size W (W.alloc (.cells cs.toArray 70)) := (Below.refl _ _).alloc (Nat.le_refl _) _
  have hq := h.own.lt
  have h2 := h.two.kb (W' := W.alloc (.cells cs.toArray 70)) hb.size (fun k hk _ => hb.block k hk)
  obtain ⟨A, c, w5, g1, g2, g3⟩ := h2.app (P := Tryz.prog) (S := 23) Tryz.underlying23 infoTde9 rfl (by decide) x cs hcl h1 (heap_alloc_new W _)
    ((hx.below hb).more (fun k hk hp => ⟨by have h9 : n2 ≤ k := hp; omega, fun e => by have := ho k e; have h9 : n2 ≤ k := hp; omega⟩)) hlen (by decide) (by simp; omega)
  have ho5 : Own w5 b3 26 [.slice A0 p.decls.length c0, vr] := (g3.block b3 (Nat.lt_succ_self _)).trans (h.own.below hb)
  have hbs : Below b3 w5 (w5.setCell ⟨b3, 0, none⟩ (.slice A (p.decls.length + 1) c)) := (Below.refl _ _).setCell (p := ⟨b3, 0, none⟩) (Nat.le_refl _) _
  have s3 : Kept [b3] w5 (w5.setCell ⟨b3, 0, none⟩ (.slice A (p.decls.length + 1) c)) := (Kept.refl _ _).setCell (.inl (by simp)) _
  have hq1 : Below b3 W (W.alloc (.cells cs.toArray 70)) := hb.mono (by omega)
  have hq2 : Below b3 (W.alloc (.cells cs.toArray 70)) w5 := g3.mono (Nat.le_succ _)
  have hbC : Below b3 W (w5.setCell ⟨b3, 0, none⟩ (.slice A (p.decls.length + 1) c)) := (hq1.trans hq2).trans hbs
  refine ⟨A, c, w5, g1, ho5, ⟨ho5.set 0 _, (hbC.block b0 hl.2.1).trans h.res, ?_, h.rdr.low (hbC.mono (by omega)), Kr.kbs h.kr (Kb.of hbC) (by omega), hl⟩⟩
  have := g2.kb (W' := w5.setCell ⟨b3, 0, none⟩ (.slice A (p.decls.length + 1) c)) s3.size (fun k hk hb => s3.block k hk (by simp; omega))
  simpa using this
/-- a rule more. -/
theorem PgI.rule {n2 : Nat} {A0 : Option Addr} {c0 : Nat} {x : TRu} {cs : List Value} (h : PgI R e w b0 b3 p vd (.slice A0 p.rules.length c0) sp W) (hcl : cs.length = 6) (h1 : ∀ u ∈ cs, u.oneCell' = true) (hn : b3 + 1 ≤ n2) (ho : ∀ k, (some k = vd.ownBlock ∨ some k = (Value.slice A0 p.rules.length c0).ownBlock) → k < n2)
    (hx : Stab W (fun k => n2 ≤ k) (fun W => FRu W cs x)) (hlen : p.rules.length ≤ 100000) :
    ∃ A c w5, (Builtin.append_ #[24, 24] 24 #[.slice A0 p.rules.length c0, .slice (some ⟨W.heap.size, 0, none⟩) 1 1]).run Tryz.prog (W.alloc (.cells cs.toArray 36)) = .ok (.slice A (p.rules.length + 1) c) w5 ∧
      Own w5 b3 26 [vd, .slice A0 p.rules.length c0] ∧ PgI R e w b0 b3 ⟨p.decls, p.rules ++ [x]⟩ vd (.slice A (p.rules.length + 1) c) sp (w5.setCell ⟨b3, 1, none⟩ (.slice A (p.rules.length + 1) c)) := by
  have hl := h.lo
  have hb : Below W.heap.size W (W.alloc (.cells cs.toArray 36)) := (Below.refl _ _).alloc (Nat.le_refl _) _
  have hq := h.own.lt
  have h2 := (h.two.kb (W' := W.alloc (.cells cs.toArray 36)) hb.size (fun k hk _ => hb.block k hk)).swap
  obtain ⟨A, c, w5, g1, g2, g3⟩ := h2.app (P := Tryz.prog) (S := 24) Tryz.underlying24 infoTru9 rfl (by decide) x cs hcl h1 (heap_alloc_new W _)
    ((hx.below hb).more (fun k hk hp => ⟨by have h9 : n2 ≤ k := hp; omega, fun e => by have := ho k e.symm; have h9 : n2 ≤ k := hp; omega⟩)) hlen (by decide) (by simp; omega)
  have ho5 : Own w5 b3 26 [vd, .slice A0 p.rules.length c0] := (g3.block b3 (Nat.lt_succ_self _)).trans (h.own.below hb)
  have hbs : Below b3 w5 (w5.setCell ⟨b3, 1, none⟩ (.slice A (p.rules.length + 1) c)) := (Below.refl _ _).setCell (p := ⟨b3, 1, none⟩) (Nat.le_refl _) _
  have s3 : Kept [b3] w5 (w5.setCell ⟨b3, 1, none⟩ (.slice A (p.rules.length + 1) c)) := (Kept.refl _ _).setCell (.inl (by simp)) _
  have hq1 : Below b3 W (W.alloc (.cells cs.toArray 36)) := hb.mono (by omega)
  have hq2 : Below b3 (W.alloc (.cells cs.toArray 36)) w5 := g3.mono (Nat.le_succ _)
  have hbC : Below b3 W (w5.setCell ⟨b3, 1, none⟩ (.slice A (p.rules.length + 1) c)) := (hq1.trans hq2).trans hbs
  refine ⟨A, c, w5, g1, ho5, ⟨ho5.set 1 _, (hbC.block b0 hl.2.1).trans h.res, ?_, h.rdr.low (hbC.mono (by omega)), Kr.kbs h.kr (Kb.of hbC) (by omega), hl⟩⟩
  have := (g2.kb (W' := w5.setCell ⟨b3, 1, none⟩ (.slice A (p.rules.length + 1) c)) s3.size (fun k hk hb => s3.block k hk (by simp; omega))).swap
  simpa using this
end
theorem progN_stop {e n : Nat} {p : TPg} {sp : PS} (h : sp.rest = []) : progN e n p sp = (p, sp) := by
  cases n with
  | zero => rfl
  | succ n => unfold progN; rw [if_pos h]
set_option maxRecDepth 100000 in
set_option maxHeartbeats 8000000 in
theorem program_any (R e : Nat) (s : PS) (w : World) (h : Rdr R e w s) :
    Calls Tryz.prog 13 #[.pointer (some ⟨R, 0, none⟩)] w (GotPg R e w (progM e s)) := by
  have hRw := h.lt
  have hb : Below w.heap.size w ((w.alloc (.cells #[.slice none 0 0, .slice none 0 0] 26)).alloc (.cells #[.slice none 0 0, .slice none 0 0] 26)) := ((Below.refl _ _).alloc (Nat.le_refl _) _).alloc (by simp) _
  have o1 : Own (w.alloc (.cells #[.slice none 0 0, .slice none 0 0] 26)) w.heap.size 26 [.slice none 0 0, .slice none 0 0] := heap_alloc_new _ _
  have o2 := heap_alloc_new (w.alloc (.cells #[.slice none 0 0, .slice none 0 0] 26)) (.cells #[.slice none 0 0, .slice none 0 0] 26)
  simp only [World.size_alloc] at o2
  obtain ⟨b0, hb0⟩ : ∃ b, b = w.heap.size := ⟨_, rfl⟩
  obtain ⟨b3, hb3⟩ : ∃ b, b = w.heap.size + 1 := ⟨_, rfl⟩
  have HI0 : Hid (PgI R e w b0 b3 ⟨[], []⟩ (.slice none 0 0) (.slice none 0 0) s ((w.alloc (.cells #[.slice none 0 0, .slice none 0 0] 26)).alloc (.cells #[.slice none 0 0, .slice none 0 0] 26))) := by
    rw [hb0, hb3]
    exact ⟨o2, o1.alloc _, ⟨⟨[], GX.nil _⟩, ⟨[], GX.nil _⟩, fun k hk => by cases hk⟩, h.below hb, Kr.of hb, by omega⟩
  have HFin0 : Hid (∃ n, s.rest.length ≤ n ∧ progN e n ⟨[], []⟩ s = progM e s) := ⟨_, Nat.le_refl _, rfl⟩
  have HLn0 : Hid (([] : List TDe).length + ([] : List TRu).length + s.rest.length ≤ 4000) := by have := h.tok.len; show _ ≤ _; simp; exact this
  have HIs := Lib.hid (fun s w (h : Rdr R e w s) => is_any R e cRel s w h)
  have hrl : bts cRel = ⟨#[114, 101, 108]⟩ := rfl
  rw [hrl] at HIs
  have HR3 := Lib.hid (fun n s w (h : Rdr R e w s) => room_any R e n 32 s w h)
  have HR6 := Lib.hid (fun n s w (h : Rdr R e w s) => room_any R e n 64 s w h)
  have HDe := Lib.hid (fun s w (h : Rdr R e w s) => declaration_any R e s w h)
  have HRu := Lib.hid (fun s w (h : Rdr R e w s) => rule_any R e s w h)
  have HB0 := Lib.hid hb0
  have HB3 := Lib.hid hb3
  generalize progM e s = fin at *
  clear h hb o1 o2 hrl hb0 hb3
  go_enter Tryz.func13, Tryz.ntmps13
  go_wp2_with fail
  rw [show (Value.pointer (some ⟨w.heap.size + 1, 0, none⟩)) = .pointer (some ⟨b3, 0, none⟩) by rw [HB3.out]]
  rw [show (Value.pointer (some ⟨w.heap.size, 0, none⟩)) = .pointer (some ⟨b0, 0, none⟩) by rw [HB0.out]]
  go_loopw [] (fun wr => ∃ (p : TPg) (sp : PS) (vd vr : Value), Hid (PgI R e w b0 b3 p vd vr sp wr) ∧ Hid (∃ n, sp.rest.length ≤ n ∧ progN e n p sp = fin) ∧ Hid (p.decls.length + p.rules.length + sp.rest.length ≤ 4000)) (fun wr => restN R wr)
  case atStart => exact ⟨_, s, _, _, HI0, HFin0, HLn0⟩
  case round =>
    clear HI0 HFin0 HLn0
    obtain ⟨p, sp, vd, vr, HI, HFin, HLn⟩ := hrel
    obtain ⟨⟨Ad, cd, hvd⟩, Ar, cr, hvr⟩ := HI.out.vals
    subst hvd hvr
    obtain ⟨At, ct, hO, hct, htk⟩ := HI.out.rdr.own
    have r0 := hO.cell 0
    have rq := hO.lt
    simp only [rdL, List.getElem?_cons_zero] at r0
    have HLn' := HLn.out
    have HMs := Lib.hid HI.out.rdr.restN
    clear hO hct htk
    by_cases hs0 : sp.rest = []
    · have hl0 : (sp.rest.length : Int) = 0 := by rw [hs0]; rfl
      have hf : fin = (p, sp) := by
        obtain ⟨n, _, hn⟩ := HFin.out
        rw [progN_stop hs0] at hn
        exact hn.symm
      have HG := Lib.hid (fun cs => HI.out.fin (by omega) (by omega) cs)
      have HOo := Lib.hid HI.out.own
      have HRs := Lib.hid HI.out.res
      have HF := Lib.hid hf
      have hl0' : sp.rest.length = 0 := by rw [hs0]; rfl
      rw [hl0'] at r0
      clear hf hs0 hl0 hl0' HLn'
      go_wp2_with (first
        | (refine wpList_load_row (o := ⟨some 36, _, _, _, _, _⟩) rfl 26 _ rfl b3 rfl 26 #[.slice Ad p.decls.length cd, .slice Ar p.rules.length cr] (0, 0) _ HOo.out Tryz.underlying26 rfl infoTpg2 ?_)
        | (refine wpList_store_row (o := ⟨none, .store 26 _ _, _, _, _, _⟩) rfl 26 _ _ rfl b0 #[.slice Ad p.decls.length cd, .slice Ar p.rules.length cr] rfl rfl 26 _ HRs.out infoTpg2 rfl (by simp [Value.oneCell']) ?_)
        | fail)
      refine bodyPost_ret (v := .agg #[.slice Ad p.decls.length cd, .slice Ar p.rules.length cr]) (results_cell_row (P := Tryz.prog) rfl _ _ b0 26 _ (0, 0) _ rfl (HRs.out.setRow [.slice Ad p.decls.length cd, .slice Ar p.rules.length cr]) Tryz.underlying26 rfl infoTpg2) rfl ?_
      rw [HF.out]
      exact HG.out _
    · have hl0 : (0 : Int) < (sp.rest.length : Int) := by have := List.length_pos_iff.2 hs0; omega
      have HI1 := Lib.hid (HIs.out sp wr HI.out.rdr)
      cases hb : isT e sp cRel with
      | true =>
        rw [hb] at HI1
        have HFn : Hid (∃ n, (declM e (room e sp p.decls.length 32)).2.rest.length ≤ n ∧ progN e n ⟨p.decls ++ [(declM e (room e sp p.decls.length 32)).1], p.rules⟩ (declM e (room e sp p.decls.length 32)).2 = fin) := by
          obtain ⟨n, hn, hf⟩ := HFin.out
          have hst := decl_step (e := e) (s := sp) p.decls.length 32 hs0
          cases n with
          | zero => omega
          | succ n =>
            unfold progN at hf
            rw [if_neg hs0, if_pos hb] at hf
            exact ⟨n, by omega, hf⟩
        have HSt := Lib.hid (decl_step (e := e) (s := sp) p.decls.length 32 hs0)
        clear hb hs0 HFin HIs
        go_wp2_with fail
        refine HI1.out.mono ?_
        rintro r w1 ⟨rfl, b1⟩
        have HI2 := Lib.hid (HI.out.kept (Kr.of b1) (HI.out.rdr.below b1))
        have e0 := HI2.out.own.cell 0
        have eq := HI2.out.own.lt
        simp only [List.getElem?_cons_zero, List.getElem?_cons_succ] at e0
        clear b1 HI HI1
        go_wp2_with fail
        clear e0 eq
        refine (HR3.out p.decls.length sp w1 HI2.out.rdr).mono ?_
        rintro r w2 ⟨rfl, r2, k2⟩
        have HI3 := Lib.hid (HI2.out.kept k2 r2)
        have HCl := Lib.hid (fun W (h : Rdr R e W (room e sp p.decls.length 32)) => HDe.out _ W h)
        generalize room e sp p.decls.length 32 = s2 at *
        generalize declM e s2 = q at *
        obtain ⟨x, s3⟩ := q
        simp only at HFn HSt HCl
        have x0 := HI3.out.own.cell 0
        have xq := HI3.out.own.lt
        simp only [List.getElem?_cons_zero, List.getElem?_cons_succ] at x0
        clear r2 k2 HI2
        go_wp2_with fail
        have HWX : Hid (Below w2.heap.size w2 w2.drew) := (Below.refl _ _).drew
        go_region_law (first
          | (refine step_run (o := ⟨some 22, _, _, _, _, _⟩) rfl (.tmp 18) (.tmp 21) 23 rfl rfl _ _ rfl rfl hrun ?_)
          | (refine step_call (o := ⟨some 20, _, _, _, _, _⟩) rfl (f := 29) (args := #[.pointer (some ⟨R, 0, none⟩)]) (by simp only [execOp, resolve, Act.eval, List.map_toArray, List.map_cons, List.map_nil]; kernel_rfl) ((HCl.out _ (HI3.out.rdr.below HWX.out)).mono ?_)
             rintro r w3 ⟨A1, c1, rfl, st3, ok3, r3, k3⟩
             refine ⟨_, rfl, ?_⟩
             simp only at st3 r3
             have kr3 : Kr R w2 w3 := Kr.tr (Kr.of HWX.out) k3
             have hI3 := HI3.out.kept kr3 r3
             have hown := HI3.out.two.ownLt
             have hsz2 := HWX.out.size
             obtain ⟨A5, c5, w5, hrun, ho5, hN5⟩ := hI3.decl (x := x) (cs := [.string x.rel, .slice A1 x.kinds.length c1, .int .i64 x.pos]) (n2 := w2.drew.heap.size) rfl (by simp [Value.oneCell']) (by omega) (fun k hk => by have := (hown k hk).2; omega) (st3.imp (fun W h => ⟨A1, c1, rfl, h, ok3⟩)) (by omega)
             have z0 := hI3.own.cell 0
             have zq := hI3.own.lt
             have y0 := ho5.cell 0
             have yf := ho5.frozen 0
             have yq := ho5.lt
             simp only [List.getElem?_cons_zero, List.getElem?_cons_succ] at z0 y0
             have HN := Lib.hid hN5
             clear hN5 hI3 hown hsz2 kr3 st3 r3 k3 ho5))
        all_goals
          go_wp2
          go_roundw
          case rel => exact ⟨⟨p.decls ++ [x], p.rules⟩, s3, _, _, HN, HFn, by have := HSt.out; show _ ≤ _; simp; omega⟩
          case measure =>
            have h1 := HN.out.rdr.restN
            have h2 := HMs.out
            have h3 := HSt.out
            show restN R _ < restN R wr
            omega
      | false =>
        rw [hb] at HI1
        have HFn : Hid (∃ n, (ruleM e (room e sp p.rules.length 64)).2.rest.length ≤ n ∧ progN e n ⟨p.decls, p.rules ++ [(ruleM e (room e sp p.rules.length 64)).1]⟩ (ruleM e (room e sp p.rules.length 64)).2 = fin) := by
          obtain ⟨n, hn, hf⟩ := HFin.out
          have hst := rule_step (e := e) (s := sp) p.rules.length 64 hs0
          cases n with
          | zero => omega
          | succ n =>
            unfold progN at hf
            rw [if_neg hs0, if_neg (by rw [hb]; decide)] at hf
            exact ⟨n, by omega, hf⟩
        have HSt := Lib.hid (rule_step (e := e) (s := sp) p.rules.length 64 hs0)
        clear hb hs0 HFin HIs
        go_wp2_with fail
        refine HI1.out.mono ?_
        rintro r w1 ⟨rfl, b1⟩
        have HI2 := Lib.hid (HI.out.kept (Kr.of b1) (HI.out.rdr.below b1))
        have e1 := HI2.out.own.cell 1
        have eq := HI2.out.own.lt
        simp only [List.getElem?_cons_zero, List.getElem?_cons_succ] at e1
        clear b1 HI HI1
        go_wp2_with fail
        clear e1 eq
        refine (HR6.out p.rules.length sp w1 HI2.out.rdr).mono ?_
        rintro r w2 ⟨rfl, r2, k2⟩
        have HI3 := Lib.hid (HI2.out.kept k2 r2)
        have HCl := Lib.hid (fun W (h : Rdr R e W (room e sp p.rules.length 64)) => HRu.out _ W h)
        generalize room e sp p.rules.length 64 = s2 at *
        generalize ruleM e s2 = q at *
        obtain ⟨x, s3⟩ := q
        simp only at HFn HSt HCl
        have x1 := HI3.out.own.cell 1
        have xq := HI3.out.own.lt
        simp only [List.getElem?_cons_zero, List.getElem?_cons_succ] at x1
        clear r2 k2 HI2
        go_wp2_with fail
        have HWX : Hid (Below w2.heap.size w2 w2.drew) := (Below.refl _ _).drew
        go_region_law (first
          | (refine step_run (o := ⟨some 34, _, _, _, _, _⟩) rfl (.tmp 30) (.tmp 33) 24 rfl rfl _ _ rfl rfl hrun ?_)
          | (refine step_call (o := ⟨some 32, _, _, _, _, _⟩) rfl (f := 24) (args := #[.pointer (some ⟨R, 0, none⟩)]) (by simp only [execOp, resolve, Act.eval, List.map_toArray, List.map_cons, List.map_nil]; kernel_rfl) ((HCl.out _ (HI3.out.rdr.below HWX.out)).mono ?_)
             rintro r w3 ⟨A1, c1, B1, d1, rfl, st3, r3, k3⟩
             refine ⟨_, rfl, ?_⟩
             simp only at st3 r3
             have kr3 : Kr R w2 w3 := Kr.tr (Kr.of HWX.out) k3
             have hI3 := HI3.out.kept kr3 r3
             have hown := HI3.out.two.ownLt
             have hsz2 := HWX.out.size
             obtain ⟨A5, c5, w5, hrun, ho5, hN5⟩ := hI3.rule (x := x) (cs := [.string x.head.rel, .slice A1 x.head.args.length c1, .int .i64 x.agg, .int .i64 x.col, .slice B1 x.body.length d1, .int .i64 x.pos]) (n2 := w2.drew.heap.size) rfl (by simp [Value.oneCell']) (by omega) (fun k hk => by have := (hown k hk).2; omega) (st3.imp (fun W h => ⟨A1, c1, B1, d1, rfl, h⟩)) (by omega)
             have z1 := hI3.own.cell 1
             have zq := hI3.own.lt
             have y1 := ho5.cell 1
             have yf := ho5.frozen 1
             have yq := ho5.lt
             simp only [List.getElem?_cons_zero, List.getElem?_cons_succ] at z1 y1
             have HN := Lib.hid hN5
             clear hN5 hI3 hown hsz2 kr3 st3 r3 k3 ho5))
        all_goals
          go_wp2
          go_roundw
          case rel => exact ⟨⟨p.decls, p.rules ++ [x]⟩, s3, _, _, HN, HFn, by have := HSt.out; show _ ≤ _; simp; omega⟩
          case measure =>
            have h1 := HN.out.rdr.restN
            have h2 := HMs.out
            have h3 := HSt.out
            show restN R _ < restN R wr
            omega
end Go.Proofs.YtolnikpihedmbaaGreatDoor
