/- The reader's literals. Conditions: as ParE's. The reader's bodies. Conditions: as ParE's. The reader's rules. Conditions: as ParE's. -/
import Derived.Test.YtolnikpihedmbaaGreatDoorPbParO
import Derived.Test.YtolnikpihedmbaaGreatDoorPbParT
set_option linter.unusedVariables false
set_option linter.unusedSimpArgs false
namespace Go.Proofs.YtolnikpihedmbaaGreatDoor
open Go.RowKit Go.Deep Go.Shelf

theorem GotLt.atom {R e b0 : Nat} {w W2 W3 : World} {k at_ : Int} {q : TAm × PS} {A : Option Addr} {c : Nat} (kw : Kr R w W2) (hb : w.heap.size ≤ b0) (hb2 : b0 < W2.heap.size) (hR : R < w.heap.size) (hk : -9223372036854775808 ≤ k ∧ k ≤ 9223372036854775807)
    (st : Stab W3 (fun k => W2.heap.size ≤ k) (fun W => AmV W q.1 A)) (r3 : Rdr R e W3 q.2) (k3 : Kr R W2 W3) (cs : Array Value) :
    GotLt R e w (⟨k, q.1, 0, zE, zE, at_⟩, q.2) (.returned (.agg #[.int .i64 k, .string q.1.rel, .slice A q.1.args.length c, .int .i64 0, .int .i64 0, .string noText, .int .i64 0, .int .i64 0, .string noText, .slice none 0 0, .int .i64 0, .string noText, .int .i64 0, .int .i64 0, .string noText, .slice none 0 0, .int .i64 at_])) (W3.setRow b0 cs) := by
  refine ⟨A, c, none, 0, none, 0, rfl, ?_, r3.setRow (by omega) _, Kept.setRow (Kr.tr kw k3) (.inr hb) _⟩
  have h2 := kw.size
  exact (st.imp (G := fun W => LtV W ⟨k, q.1, 0, zE, zE, at_⟩ A none none) (fun W h => ⟨h, ⟨⟨no_ok, no_ok⟩, Rg.nil⟩, ⟨⟨no_ok, no_ok⟩, Rg.nil⟩, hk.1, hk.2⟩)).keep (by simp) (fun k hk hp => setRow_other W3 b0 k _ (by omega)) (fun k hk hp => by omega)
set_option maxRecDepth 100000 in
set_option maxHeartbeats 4000000 in
theorem literal_any (R e : Nat) (s : PS) (w : World) (h : Rdr R e w s) :
    Calls Tryz.prog 69 #[.pointer (some ⟨R, 0, none⟩)] w (GotLt R e w (litM e s)) := by
  have hRw := h.lt
  have hb : Below w.heap.size w (w.alloc (.cells #[.int .i64 0, .string noText, .slice none 0 0, .int .i64 0, .int .i64 0, .string noText, .int .i64 0, .int .i64 0, .string noText, .slice none 0 0, .int .i64 0, .string noText, .int .i64 0, .int .i64 0, .string noText, .slice none 0 0, .int .i64 0] 62)) := (Below.refl _ _).alloc (Nat.le_refl _) _
  have o1 : Own (w.alloc (.cells #[.int .i64 0, .string noText, .slice none 0 0, .int .i64 0, .int .i64 0, .string noText, .int .i64 0, .int .i64 0, .string noText, .slice none 0 0, .int .i64 0, .string noText, .int .i64 0, .int .i64 0, .string noText, .slice none 0 0, .int .i64 0] 62)) w.heap.size 62 [.int .i64 0, .string noText, .slice none 0 0, .int .i64 0, .int .i64 0, .string noText, .int .i64 0, .int .i64 0, .string noText, .slice none 0 0, .int .i64 0, .string noText, .int .i64 0, .int .i64 0, .string noText, .slice none 0 0, .int .i64 0] := heap_alloc_new _ _
  have HNx := Lib.hid (next_any R e s _ (h.below hb))
  have HTn := Lib.hid (fun w (h : Rdr R e w s) => take_any R e cNot (by decide) s w h)
  have hno : bts cNot = ⟨#[110, 111, 116]⟩ := rfl
  rw [hno] at HTn
  have HAm := Lib.hid (fun s w (h : Rdr R e w s) => atom_read R e s w h)
  have HBf := Lib.hid (fun w (h : Rdr R e w s) => beforeAtom_any R e s w h)
  have HCm := Lib.hid (fun w (h : Rdr R e w s) => comparison_any R e s w h)
  have H0 := Lib.hid (h.below hb)
  have HO1 := Lib.hid o1
  have HK0 : Hid (Kr R w (w.alloc (.cells #[.int .i64 0, .string noText, .slice none 0 0, .int .i64 0, .int .i64 0, .string noText, .int .i64 0, .int .i64 0, .string noText, .slice none 0 0, .int .i64 0, .string noText, .int .i64 0, .int .i64 0, .string noText, .slice none 0 0, .int .i64 0] 62))) := Kr.of hb
  have hfa := field_at (nx e s)
  unfold takeT at HTn
  unfold litM
  clear h hb o1 hno
  generalize nx e s = tk at *
  obtain ⟨tq, tt, tp⟩ := tk
  simp only at hfa ⊢
  generalize (tp : Int) = at_ at *
  cases hb : isT e s cNot with
  | true =>
    simp only [hb, if_true] at HTn ⊢
    clear hb HBf HCm
    go_enter Tryz.func69, Tryz.ntmps69
    go_wp2_with fail
    refine HNx.out.mono ?_
    rintro r w1 ⟨rfl, b1⟩
    have HO1' := Lib.hid (HO1.out.below b1)
    have H1 := Lib.hid (H0.out.below b1)
    have K1 := Lib.hid (HK0.out.then b1)
    clear b1 HNx
    go_wp2_with fail
    refine (HTn.out w1 H1.out).mono ?_
    rintro r w2 ⟨rfl, r2, k2⟩
    have HO2 := Lib.hid (k2.own HO1'.out (by simp; omega))
    have H2 := Lib.hid r2
    have K2 := Lib.hid (Kr.tr K1.out k2)
    clear r2 k2 HTn
    go_wp2_with fail
    refine (HAm.out (adv s) w2 H2.out).mono ?_
    rintro r w5 ⟨A, c, rfl, st5, r5, k5⟩
    have HO5 := Lib.hid (k5.own HO2.out (by simp; omega))
    have q5 := HO2.out.lt
    have HG := Lib.hid (fun cs => GotLt.atom (b0 := w.heap.size) (k := 2) (at_ := at_) (c := c) K2.out (Nat.le_refl _) q5 hRw (by decide) st5 r5 k5 cs)
    generalize atomM e (adv s) = q at *
    obtain ⟨am, sp⟩ := q
    simp only at HG ⊢
    clear st5 r5 k5
    go_wp2_with (first
      | (refine wpList_store_row (o := ⟨none, .store 62 _ _, _, _, _, _⟩) rfl 62 _ _ rfl w.heap.size #[.int .i64 2, .string am.rel, .slice A am.args.length c, .int .i64 0, .int .i64 0, .string noText, .int .i64 0, .int .i64 0, .string noText, .slice none 0 0, .int .i64 0, .string noText, .int .i64 0, .int .i64 0, .string noText, .slice none 0 0, .int .i64 at_] rfl rfl 62 _ HO5.out infoTlit rfl (by simp [Value.oneCell']) ?_)
      | fail)
    refine bodyPost_ret (v := .agg #[.int .i64 2, .string am.rel, .slice A am.args.length c, .int .i64 0, .int .i64 0, .string noText, .int .i64 0, .int .i64 0, .string noText, .slice none 0 0, .int .i64 0, .string noText, .int .i64 0, .int .i64 0, .string noText, .slice none 0 0, .int .i64 at_]) (results_cell_row (P := Tryz.prog) rfl _ _ w.heap.size 62 _ (0, 0) _ rfl (HO5.out.setRow [.int .i64 2, .string am.rel, .slice A am.args.length c, .int .i64 0, .int .i64 0, .string noText, .int .i64 0, .int .i64 0, .string noText, .slice none 0 0, .int .i64 0, .string noText, .int .i64 0, .int .i64 0, .string noText, .slice none 0 0, .int .i64 at_]) Tryz.underlying62 rfl infoTlit) rfl ?_
    exact HG.out _
  | false =>
    simp only [hb, if_false, Bool.false_eq_true] at HTn ⊢
    cases hc : befM e s with
    | true =>
      simp only [hc, if_true] at HBf ⊢
      clear hb hc HCm
      go_enter Tryz.func69, Tryz.ntmps69
      go_wp2_with fail
      refine HNx.out.mono ?_
      rintro r w1 ⟨rfl, b1⟩
      have HO1' := Lib.hid (HO1.out.below b1)
      have H1 := Lib.hid (H0.out.below b1)
      have K1 := Lib.hid (HK0.out.then b1)
      clear b1 HNx
      go_wp2_with fail
      refine (HTn.out w1 H1.out).mono ?_
      rintro r w2 ⟨rfl, r2, k2⟩
      have HO2 := Lib.hid (k2.own HO1'.out (by simp; omega))
      have H2 := Lib.hid r2
      have K2 := Lib.hid (Kr.tr K1.out k2)
      clear r2 k2 HTn
      go_wp2_with fail
      refine (HBf.out w2 H2.out).mono ?_
      rintro r w3 ⟨rfl, b3⟩
      have HO3 := Lib.hid (HO2.out.below b3)
      have H3 := Lib.hid (H2.out.below b3)
      have K3 := Lib.hid (K2.out.then b3)
      clear b3 HBf
      go_wp2_with fail
      refine (HAm.out (s) w3 H3.out).mono ?_
      rintro r w5 ⟨A, c, rfl, st5, r5, k5⟩
      have HO5 := Lib.hid (k5.own HO3.out (by simp; omega))
      have q5 := HO3.out.lt
      have HG := Lib.hid (fun cs => GotLt.atom (b0 := w.heap.size) (k := 1) (at_ := at_) (c := c) K3.out (Nat.le_refl _) q5 hRw (by decide) st5 r5 k5 cs)
      generalize atomM e (s) = q at *
      obtain ⟨am, sp⟩ := q
      simp only at HG ⊢
      clear st5 r5 k5
      go_wp2_with (first
        | (refine wpList_store_row (o := ⟨none, .store 62 _ _, _, _, _, _⟩) rfl 62 _ _ rfl w.heap.size #[.int .i64 1, .string am.rel, .slice A am.args.length c, .int .i64 0, .int .i64 0, .string noText, .int .i64 0, .int .i64 0, .string noText, .slice none 0 0, .int .i64 0, .string noText, .int .i64 0, .int .i64 0, .string noText, .slice none 0 0, .int .i64 at_] rfl rfl 62 _ HO5.out infoTlit rfl (by simp [Value.oneCell']) ?_)
        | fail)
      refine bodyPost_ret (v := .agg #[.int .i64 1, .string am.rel, .slice A am.args.length c, .int .i64 0, .int .i64 0, .string noText, .int .i64 0, .int .i64 0, .string noText, .slice none 0 0, .int .i64 0, .string noText, .int .i64 0, .int .i64 0, .string noText, .slice none 0 0, .int .i64 at_]) (results_cell_row (P := Tryz.prog) rfl _ _ w.heap.size 62 _ (0, 0) _ rfl (HO5.out.setRow [.int .i64 1, .string am.rel, .slice A am.args.length c, .int .i64 0, .int .i64 0, .string noText, .int .i64 0, .int .i64 0, .string noText, .slice none 0 0, .int .i64 0, .string noText, .int .i64 0, .int .i64 0, .string noText, .slice none 0 0, .int .i64 at_]) Tryz.underlying62 rfl infoTlit) rfl ?_
      exact HG.out _
    | false =>
      simp only [hc, if_false, Bool.false_eq_true] at HBf ⊢
      clear hb hc HAm
      go_enter Tryz.func69, Tryz.ntmps69
      go_wp2_with fail
      refine HNx.out.mono ?_
      rintro r w1 ⟨rfl, b1⟩
      have HO1' := Lib.hid (HO1.out.below b1)
      have H1 := Lib.hid (H0.out.below b1)
      have K1 := Lib.hid (HK0.out.then b1)
      clear b1 HNx
      go_wp2_with fail
      refine (HTn.out w1 H1.out).mono ?_
      rintro r w2 ⟨rfl, r2, k2⟩
      have HO2 := Lib.hid (k2.own HO1'.out (by simp; omega))
      have H2 := Lib.hid r2
      have K2 := Lib.hid (Kr.tr K1.out k2)
      clear r2 k2 HTn
      go_wp2_with fail
      refine (HBf.out w2 H2.out).mono ?_
      rintro r w3 ⟨rfl, b3⟩
      have HO3 := Lib.hid (HO2.out.below b3)
      have H3 := Lib.hid (H2.out.below b3)
      have K3 := Lib.hid (K2.out.then b3)
      clear b3 HBf
      go_wp2_with fail
      refine (HCm.out w3 H3.out).mono ?_
      rintro r w5 ⟨A, c, L, d, F, f, rfl, st5, r5, k5⟩
      have HO5 := Lib.hid (k5.own HO3.out (by simp; omega))
      have q5 := HO3.out.lt
      have hq3 := K3.out.size
      generalize cmpM e s = q at *
      have ST := Lib.hid (st5.keep (w' := w5.setRow w.heap.size (ltL q.1 A c L d F f).toArray) (P' := fun k => w.heap.size ≤ k) (by simp) (fun k hk hp => setRow_other w5 _ k _ (by omega)) (fun k hk hp => by omega))
      have HRd := Lib.hid (r5.setRow (b := w.heap.size) hRw (ltL q.1 A c L d F f).toArray)
      have HKw := Lib.hid (Kept.setRow (Kr.tr K3.out k5) (b := w.heap.size) (.inr (Nat.le_refl _)) (ltL q.1 A c L d F f).toArray)
      clear st5 r5 k5
      go_wp2_with (first
        | (refine wpList_store_row (o := ⟨none, .store 62 _ _, _, _, _, _⟩) rfl 62 _ _ rfl w.heap.size (ltL q.1 A c L d F f).toArray rfl rfl 62 _ HO5.out infoTlit rfl (by simp [ltL, Value.oneCell']) ?_)
        | fail)
      refine bodyPost_ret (v := .agg (ltL q.1 A c L d F f).toArray) (results_cell_row (P := Tryz.prog) rfl _ _ w.heap.size 62 _ (0, 0) _ rfl (HO5.out.setRow (ltL q.1 A c L d F f)) Tryz.underlying62 rfl infoTlit) rfl ?_
      exact ⟨A, c, L, d, F, f, rfl, ST.out, HRd.out, HKw.out⟩
end Go.Proofs.YtolnikpihedmbaaGreatDoor

set_option linter.unusedVariables false
set_option linter.unusedSimpArgs false
namespace Go.Proofs.YtolnikpihedmbaaGreatDoor
open Go.RowKit Go.Deep Go.Shelf

theorem wpList_append_ran {P : Program} {ops : Array Oper} {rest : List Oper} {o : Oper} {a : Act} {w : World} {Q : Exit → Act → World → Prop} (hgd : o.guard = none) (s x : Operand) (t : TypeId)
    (hop : o.op = Op.call { callee := Callee.builtin Builtin.append, args := #[s, x], argTypes := #[t, t] }) (hty : o.type = t) (vs vx : Value) (hs : a.eval s = vs) (hx : a.eval x = vx) {v' : Value} {w' : World}
    (hrun : (Builtin.append_ #[t, t] t #[vs, vx]).run P w = .ok v' w') (h : wpList P ops Q rest (a.put o.dst v') w') : wpList P ops Q (o :: rest) a w :=
  wpList_plain hgd fun K hK => by
    unfold Oper.wp
    simp [execOp, hop, hty, resolve, invoke, builtin, hs, hx, hrun, Result.andThen]
    exact hK _ _ h
theorem parts17 {α : Type} {l : List α} (h : l.length = 17) : ∃ u0 u1 u2 u3 u4 u5 u6 u7 u8 u9 u10 u11 u12 u13 u14 u15 u16, l = [u0, u1, u2, u3, u4, u5, u6, u7, u8, u9, u10, u11, u12, u13, u14, u15, u16] := by
  match l, h with
  | [u0, u1, u2, u3, u4, u5, u6, u7, u8, u9, u10, u11, u12, u13, u14, u15, u16], _ => exact ⟨_, _, _, _, _, _, _, _, _, _, _, _, _, _, _, _, _, rfl⟩
theorem infoTlt3 : (Tryz.prog.info? 62).map (fun i => (i.zero, i.size, i.bytes)) = some (some (.agg #[.int .i64 0, .string noText, .slice none 0 0, .int .i64 0, .int .i64 0, .string noText, .int .i64 0, .int .i64 0, .string noText, .slice none 0 0, .int .i64 0, .string noText, .int .i64 0, .int .i64 0, .string noText, .slice none 0 0, .int .i64 0]), 17, 224) := by kernel_rfl
/-- what reading a body leaves. -/
def GotBd (R e : Nat) (W : World) (q : List TLt × PS) (r : Ending) (W' : World) : Prop :=
  ∃ A c, r = .returned (.slice A q.1.length c) ∧ Stab W' (fun k => W.heap.size ≤ k) (fun W => Rg 17 LtC W A q.1) ∧ Rdr R e W' q.2 ∧ Kr R W W'
structure BdI (R e : Nat) (w : World) (a : List TLt) (sp : PS) (vv : Value) (W : World) : Prop where
  rdr : Rdr R e W sp
  row : ∃ css, GR 17 62 FLt 0 w.heap.size vv a css W
  kr : Kr R w W
  len : a.length ≤ 9
  lt : R < w.heap.size
theorem BdI.kept {R e : Nat} {w W W' : World} {a : List TLt} {sp sp' : PS} {vv : Value} (h : BdI R e w a sp vv W) (hr : Rdr R e W' sp') (hk : Kr R W W') : BdI R e w a sp' vv W' := by
  obtain ⟨css, hg⟩ := h.row
  have := h.lt
  exact ⟨hr, ⟨css, hg.kept hk (fun k hk => by simp only [List.mem_singleton] at hk; omega)⟩, Kr.tr h.kr hk, h.len, h.lt⟩
theorem BdI.val {R e : Nat} {w W : World} {a : List TLt} {sp : PS} {vv : Value} (h : BdI R e w a sp vv W) : ∃ A c, vv = .slice A a.length c := by
  obtain ⟨css, hg⟩ := h.row
  exact hg.val
theorem BdI.app {R e : Nat} {w W0 W : World} {a : List TLt} {sp : PS} {A0 : Option Addr} {c0 : Nat} {x : TLt} {cs : List Value} (h : BdI R e w a sp (.slice A0 a.length c0) W) (ha : a.length ≤ 8) (hcl : cs.length = 17) (h1 : ∀ u ∈ cs, u.oneCell' = true) (hW0 : w.heap.size ≤ W0.heap.size) (ho : ∀ k, (Value.slice A0 a.length c0).ownBlock = some k → k < W0.heap.size)
    (hx : Stab W (fun k => W0.heap.size ≤ k) (fun W => FLt W cs x)) :
    ∃ A c W', (Builtin.append_ #[34, 34] 34 #[.slice A0 a.length c0, .slice (some ⟨W.heap.size, 0, none⟩) 1 1]).run Tryz.prog (W.alloc (.cells cs.toArray 62)) = .ok (.slice A (a.length + 1) c) W' ∧ BdI R e w (a ++ [x]) sp (.slice A (a.length + 1) c) W' := by
  obtain ⟨hr, ⟨css, hg⟩, hk, hl, hR⟩ := h
  have hb : Below W.heap.size W (W.alloc (.cells cs.toArray 62)) := (Below.refl _ _).alloc (Nat.le_refl _) _
  have hw := hk.size
  obtain ⟨v', W', g1, g2, g3, _⟩ := (hg.below hb).app (P := Tryz.prog) (S := 34) Tryz.underlying34 infoTlt3 rfl (by decide) x cs hcl h1 (heap_alloc_new W _)
    ((hx.below hb).more (fun k hk hp => ⟨.inr (by omega), fun e => by have := ho k e.symm; omega⟩)) (by omega) (by decide) (by simp; omega)
  obtain ⟨A, c, hv⟩ := g2.val
  rw [List.length_append, List.length_singleton] at hv
  subst hv
  have hown := (hg.below hb).lt
  have k5 : Kept (Value.slice A0 a.length c0).ownBlock.toList (W.alloc (.cells cs.toArray 62)) W' := Kept.grown g3 (fun k hk => by rw [hk]; simp)
  have hbw : Below w.heap.size (W.alloc (.cells cs.toArray 62)) W' := k5.below (by simp; omega) (fun k hk => (hown k (by simpa using hk)).1)
  refine ⟨A, c, W', g1, (hr.below hb).low (hbw.mono hR), ⟨_, g2⟩, ?_, by simp; omega, hR⟩
  exact Kr.kbs (Kr.tr hk (Kr.of hb)) (Kb.of hbw) (Nat.le_refl _)
def lenV : Value → Nat | .slice _ n _ => n | _ => 0
def bdFin (e : Nat) (more : Bool) (a : List TLt) (sp : PS) : List TLt × PS := if more = true then bodyN e (8 - a.length) a sp else (a, sp)
theorem bd_step {e : Nat} {a : List TLt} {sp : PS} (ha : a.length ≤ 8) :
    bdFin e true a sp = bdFin e (isT e (litM e (room e sp a.length 8)).2 cCo) (a ++ [(litM e (room e sp a.length 8)).1]) (takeT e (litM e (room e sp a.length 8)).2 cCo) := by
  unfold bdFin takeT
  rw [if_pos rfl]
  by_cases h : a.length < 8
  · have e6 : room e sp a.length 8 = sp := by unfold room; rw [if_neg (by omega)]
    rw [e6, show 8 - a.length = (8 - (a ++ [(litM e sp).1]).length) + 1 by simp; omega]
    have e0 : ∀ k, bodyN e (k + 1) a sp = if isT e (litM e sp).2 cCo = true then bodyN e k (a ++ [(litM e sp).1]) (adv (litM e sp).2) else (a ++ [(litM e sp).1], (litM e sp).2) := fun _ => rfl
    rw [e0]
    cases isT e (litM e sp).2 cCo <;> rfl
  · have h8 : a.length = 8 := by omega
    have e6 : room e sp a.length 8 = rf e sp 3 := by unfold room; rw [if_pos h8]
    have hnil : (litM e (rf e sp 3)).2.rest = [] := by
      have := (litM_st (e := e) (rf e sp 3)).len
      exact List.eq_nil_of_length_eq_zero (Nat.le_zero.1 this)
    have hc := isT_nil (e := e) hnil (t := cCo) (by decide)
    rw [e6, h8, hc, if_neg (by decide), if_neg (by decide)]
    rfl
set_option maxRecDepth 100000 in
set_option maxHeartbeats 4000000 in
theorem body_any (R e : Nat) (s : PS) (w : World) (h : Rdr R e w s) :
    Calls Tryz.prog 46 #[.pointer (some ⟨R, 0, none⟩)] w (GotBd R e w (bodyM e s)) := by
  have hif : bts cIf = ⟨#[58, 45]⟩ := rfl
  have hco : bts cCo = ⟨#[44]⟩ := rfl
  have HTi := Lib.hid (take_any R e cIf (by decide) s w h)
  have HTc := Lib.hid (fun s w (h : Rdr R e w s) => take_any R e cCo (by decide) s w h)
  have HRm := Lib.hid (fun n s w (h : Rdr R e w s) => room_any R e n 8 s w h)
  have HLt := Lib.hid (fun s w (h : Rdr R e w s) => literal_any R e s w h)
  have hRw := h.lt
  rw [hif] at HTi
  rw [hco] at HTc
  have HFin : Hid (bdFin e (isT e s cIf) [] (takeT e s cIf) = bodyM e s) := by
    show _ = _
    unfold bodyM takeT bdFin
    cases isT e s cIf <;> rfl
  generalize bodyM e s = fin at *
  generalize isT e s cIf = m1 at *
  generalize takeT e s cIf = s1 at *
  clear h hif hco
  go_enter Tryz.func46, Tryz.ntmps46
  go_wp2_with fail
  refine HTi.out.mono ?_
  rintro r w1 ⟨rfl, r1, k1⟩
  have HI : Hid (BdI R e w [] s1 (.slice none 0 0) w1) := ⟨r1, ⟨[], GR.nil _⟩, k1, by decide, hRw⟩
  clear r1 k1 HTi
  go_wp2_with fail
  go_loopw [3, 4] (fun bv mv wr => ∃ (a : List TLt) (sp : PS) (m : Bool), Hid (BdI R e w a sp bv wr) ∧ mv = .bool m ∧ Hid (bdFin e m a sp = fin) ∧ Hid (m = true → a.length ≤ 8)) (fun bv _ _ => 10 - lenV bv)
  case atStart => exact ⟨[], s1, m1, HI, rfl, HFin, fun _ => by decide⟩
  case round =>
    clear HI HFin
    obtain ⟨a, sp, m, HI, rfl, HFin, HA⟩ := hrel
    obtain ⟨A, c, hv⟩ := HI.out.val
    subst hv
    cases m with
    | false =>
      have HG : Hid (GotBd R e w fin (.returned (.slice A a.length c)) wr) := by
        have hf := HFin.out
        unfold bdFin at hf
        rw [if_neg (by decide)] at hf
        obtain ⟨css, hg⟩ := HI.out.row
        show GotBd _ _ _ _ _ _
        rw [← hf]
        exact ⟨A, c, rfl, (hg.rg rfl FLt.c (by have := HI.out.len; omega)).more (fun k hk hp => by omega), HI.out.rdr, HI.out.kr⟩
      go_wp2_with fail
      go_ret
      exact HG.out
    | true =>
      have ha := HA.out rfl
      have HFn := Lib.hid ((bd_step (e := e) (sp := sp) ha).symm.trans HFin.out)
      have HN8 : Hid (a.length = 8 → (litM e (room e sp a.length 8)).2.rest = []) := fun h8 => by
        have e6 : room e sp a.length 8 = rf e sp 3 := by unfold room; rw [if_pos h8]
        rw [e6]
        have := (litM_st (e := e) (rf e sp 3)).len
        exact List.eq_nil_of_length_eq_zero (Nat.le_zero.1 this)
      clear HFin HA
      go_wp2_with fail
      refine (HRm.out a.length sp wr HI.out.rdr).mono ?_
      rintro r w3 ⟨rfl, r3, k3⟩
      have HI3 := Lib.hid (HI.out.kept r3 k3)
      clear r3 k3 HI
      generalize room e sp a.length 8 = s3 at *
      go_wp2_with fail
      refine (HLt.out s3 w3 HI3.out.rdr).mono ?_
      rintro r w4 ⟨A1, c1, L1, d1, F1, f1, rfl, st4, r4, k4⟩
      have HI4 := HI3.out.kept r4 k4
      generalize litM e s3 = q at *
      obtain ⟨x, s4⟩ := q
      simp only at st4 r4 HI4 HFn HN8
      have st5 : Stab w4 (fun k => w3.heap.size ≤ k) (fun W => FLt W (ltL x A1 c1 L1 d1 F1 f1) x) := st4.imp (fun W h => ⟨A1, c1, L1, d1, F1, f1, rfl, h⟩)
      have hcl : (ltL x A1 c1 L1 d1 F1 f1).length = 17 := rfl
      have h1 : ∀ u ∈ ltL x A1 c1 L1 d1 F1 f1, u.oneCell' = true := one_mem (by simp [ltL, Value.oneCell'])
      generalize ltL x A1 c1 L1 d1 F1 f1 = cs at *
      obtain ⟨css, hg3⟩ := HI3.out.row
      obtain ⟨A5, c5, w5, hrun, hI5⟩ := HI4.app ha hcl h1 HI3.out.kr.size (fun k hk => (hg3.lt k hk).2) st5
      have HI5 := Lib.hid hI5
      have H1 := Lib.hid h1
      obtain ⟨u0, u1, u2, u3, u4, u5, u6, u7, u8, u9, u10, u11, u12, u13, u14, u15, u16, hcs⟩ := parts17 hcl
      subst hcs
      clear st4 st5 r4 k4 HI4 hg3 hI5 h1 hcl HI3 css
      go_wp2_with (first
        | (refine wpList_append_ran (o := ⟨some 18, _, _, _, _, _⟩) rfl (.tmp 14) (.tmp 17) 34 rfl rfl _ _ rfl rfl hrun ?_)
        | fail)
      clear hrun
      refine (HTc.out s4 w5 HI5.out.rdr).mono ?_
      rintro r w6 ⟨rfl, r6, k6⟩
      have HI6 := Lib.hid (HI5.out.kept r6 k6)
      have hlen : (a ++ [x]).length = a.length + 1 := by simp
      have HL : Hid (isT e s4 cCo = true → (a ++ [x]).length ≤ 8) := fun hm => by
        by_cases h8 : a.length < 8
        · rw [hlen]; omega
        · rw [isT_nil (HN8.out (by omega)) (by decide)] at hm
          cases hm
      clear r6 k6 HI5
      go_wp2_with fail
      go_roundw
      case rel => exact ⟨a ++ [x], _, _, HI6, rfl, HFn, HL⟩
      case measure => simp [lenV]; omega
end Go.Proofs.YtolnikpihedmbaaGreatDoor

set_option linter.unusedVariables false
set_option linter.unusedSimpArgs false
namespace Go.Proofs.YtolnikpihedmbaaGreatDoor
open Go.RowKit Go.Deep Go.Shelf

/-- what reading a rule leaves. -/
def GotRr (R e : Nat) (W : World) (q : TRu × PS) (r : Ending) (W' : World) : Prop :=
  ∃ A c B d, r = .returned (ruV q.1 A c B d) ∧ Stab W' (fun k => W.heap.size ≤ k) (fun W => RuV W q.1 A B) ∧ Rdr R e W' q.2 ∧ Kr R W W'
set_option maxRecDepth 100000 in
set_option maxHeartbeats 4000000 in
theorem rule_any (R e : Nat) (s : PS) (w : World) (h : Rdr R e w s) :
    Calls Tryz.prog 24 #[.pointer (some ⟨R, 0, none⟩)] w (GotRr R e w (ruleM e s)) := by
  have hRw := h.lt
  have hb : Below w.heap.size w (w.alloc (.cells #[.string noText, .slice none 0 0, .int .i64 0, .int .i64 0, .slice none 0 0, .int .i64 0] 36)) := (Below.refl _ _).alloc (Nat.le_refl _) _
  have HO0 : Hid (Own (w.alloc (.cells #[.string noText, .slice none 0 0, .int .i64 0, .int .i64 0, .slice none 0 0, .int .i64 0] 36)) w.heap.size 36 [.string noText, .slice none 0 0, .int .i64 0, .int .i64 0, .slice none 0 0, .int .i64 0]) := heap_alloc_new _ _
  have HHd := Lib.hid (head_any R e s _ (h.below hb))
  have HBd := Lib.hid (fun s w (h : Rdr R e w s) => body_any R e s w h)
  have HPt := Lib.hid (fun s w (h : Rdr R e w s) => need_any R e cPt (by decide) s w h)
  have hpt : bts cPt = ⟨#[46]⟩ := rfl
  rw [hpt] at HPt
  have HK0 : Hid (Kr R w (w.alloc (.cells #[.string noText, .slice none 0 0, .int .i64 0, .int .i64 0, .slice none 0 0, .int .i64 0] 36))) := Kr.of hb
  have hE : ruleM e s = ({ (headM e s).1 with body := (bodyM e (headM e s).2).1 }, needT e (bodyM e (headM e s).2).2 cPt) := rfl
  rw [hE]
  generalize headM e s = q at *
  obtain ⟨y, s1⟩ := q
  simp only at HHd ⊢
  have HBd1 := Lib.hid (HBd.out s1)
  generalize bodyM e s1 = q at *
  obtain ⟨bs, s2⟩ := q
  simp only at HBd1 ⊢
  clear h hb hpt hE HBd
  go_enter Tryz.func24, Tryz.ntmps24
  go_wp2_with fail
  refine HHd.out.mono ?_
  rintro r w1 ⟨A, c, rfl, st1, hbo, r1, k1⟩
  simp only at st1 hbo r1
  obtain ⟨b3, hb3⟩ : ∃ b, b = w1.heap.size := ⟨_, rfl⟩
  have hs1 : w.heap.size < w1.heap.size := by have := k1.size; simp at this; omega
  have hbA : Below w1.heap.size w1 (w1.alloc (.cells #[.string y.head.rel, .slice A y.head.args.length c, .int .i64 y.agg, .int .i64 y.col, .slice none 0 0, .int .i64 y.pos] 36)) := (Below.refl _ _).alloc (Nat.le_refl _) _
  have R1 := Lib.hid (r1.below hbA)
  have K1 := Lib.hid (Kept.alloc (Kr.tr HK0.out k1) (.cells #[.string y.head.rel, .slice A y.head.args.length c, .int .i64 y.agg, .int .i64 y.col, .slice none 0 0, .int .i64 y.pos] 36))
  have HO1 := Lib.hid ((k1.own HO0.out (by simp; omega)).alloc (.cells #[.string y.head.rel, .slice A y.head.args.length c, .int .i64 y.agg, .int .i64 y.col, .slice none 0 0, .int .i64 y.pos] 36))
  have HB1 : Hid (Own (w1.alloc (.cells #[.string y.head.rel, .slice A y.head.args.length c, .int .i64 y.agg, .int .i64 y.col, .slice none 0 0, .int .i64 y.pos] 36)) b3 36 [.string y.head.rel, .slice A y.head.args.length c, .int .i64 y.agg, .int .i64 y.col, .slice none 0 0, .int .i64 y.pos]) := by rw [hb3]; exact heap_alloc_new _ _
  have S1 : Hid (Stab (w1.alloc (.cells #[.string y.head.rel, .slice A y.head.args.length c, .int .i64 y.agg, .int .i64 y.col, .slice none 0 0, .int .i64 y.pos] 36)) (fun k => w.heap.size < k ∧ k ≠ b3) (fun W => AmV W y.head A)) := st1.keep hbA.size (fun k hk hp => hbA.block k hk) (fun k hk hp => by simp only [World.size_alloc] at hp; omega)
  have HSz : Hid ((w1.alloc (.cells #[.string y.head.rel, .slice A y.head.args.length c, .int .i64 y.agg, .int .i64 y.col, .slice none 0 0, .int .i64 y.pos] 36)).heap.size = b3 + 1) := by show _ = _; simp; omega
  have HB3 := Lib.hid hb3
  have hlt : w.heap.size < b3 := by omega
  clear st1 r1 k1 hbA hb3 hs1 HHd HO0 HK0
  go_wp2_with fail
  rw [show (Value.pointer (some ⟨w1.heap.size, 0, none⟩)) = .pointer (some ⟨b3, 0, none⟩) by rw [HB3.out]]
  refine (HBd1.out _ R1.out).mono ?_
  rintro r w2 ⟨B, d, rfl, st2, r2, k2⟩
  simp only at st2 r2
  rw [HSz.out] at st2
  have hs2 := k2.size
  rw [HSz.out] at hs2
  have S2 := Lib.hid (S1.out.keep (P' := fun k => w.heap.size < k ∧ k ≠ b3) k2.size (fun k hk hp => k2.block k hk (by simp; omega)) (fun _ _ h => h))
  have T2 := Lib.hid (Stab.more (P' := fun k => w.heap.size < k ∧ k ≠ b3) st2 (fun k hk hp => by omega))
  have HO2 := Lib.hid (k2.own HO1.out (by simp; omega))
  have HB2 := Lib.hid (k2.own HB1.out (by simp; omega))
  have d4 := HB2.out.cell 4
  have f4 := HB2.out.frozen 4
  have q4 := HB2.out.lt
  simp only [List.getElem?_cons_zero, List.getElem?_cons_succ] at d4
  have hks : Kept [b3] w2 (w2.setCell ⟨b3, 4, none⟩ (.slice B bs.length d)) := (Kept.refl _ _).setCell (.inl (by simp)) _
  have HB4 : Hid (Own (w2.setCell ⟨b3, 4, none⟩ (.slice B bs.length d)) b3 36 [.string y.head.rel, .slice A y.head.args.length c, .int .i64 y.agg, .int .i64 y.col, .slice B bs.length d, .int .i64 y.pos]) := HB2.out.set 4 (.slice B bs.length d)
  have HO4 := Lib.hid (hks.own HO2.out (by simp; omega))
  have S4 := Lib.hid (S2.out.keep (P' := fun k => w.heap.size < k ∧ k ≠ b3) hks.size (fun k hk hp => hks.block k hk (by simp; omega)) (fun _ _ h => h))
  have T4 := Lib.hid (T2.out.keep (P' := fun k => w.heap.size < k ∧ k ≠ b3) hks.size (fun k hk hp => hks.block k hk (by simp; omega)) (fun _ _ h => h))
  have R4 := Lib.hid (r2.low ((Below.refl _ _).setCell (p := ⟨b3, 4, none⟩) (by show R + 1 ≤ b3; omega) (.slice B bs.length d)))
  have K4 := Lib.hid (Kept.setCell (Kr.tr K1.out k2) (p := ⟨b3, 4, none⟩) (.inr (by show w.heap.size ≤ b3; omega)) (.slice B bs.length d))
  clear st2 r2 k2 hks S1 S2 T2 HO1 HB1 R1 K1 HSz HO2 HB2 HBd1
  go_wp2_with fail
  clear d4 f4 q4
  refine (HPt.out _ _ R4.out).mono ?_
  rintro r w5 ⟨rfl, r5, k5⟩
  have HO5 := Lib.hid (k5.own HO4.out (by simp; omega))
  have HB5 := Lib.hid (k5.own HB4.out (by simp; omega))
  have S5 := S4.out.keep (P' := fun k => w.heap.size < k ∧ k ≠ b3) k5.size (fun k hk hp => k5.block k hk (by simp; omega)) (fun _ _ h => h)
  have T5 := T4.out.keep (P' := fun k => w.heap.size < k ∧ k ≠ b3) k5.size (fun k hk hp => k5.block k hk (by simp; omega)) (fun _ _ h => h)
  have ST : Hid (Stab (w5.setRow w.heap.size #[.string y.head.rel, .slice A y.head.args.length c, .int .i64 y.agg, .int .i64 y.col, .slice B bs.length d, .int .i64 y.pos]) (fun k => w.heap.size ≤ k) (fun W => RuV W { y with body := bs } A B)) := ((S5.and T5).imp (G := fun W => RuV W { y with body := bs } A B) (fun W h => ⟨h.1, h.2⟩)).keep (by simp) (fun k hk hp => setRow_other w5 _ k _ (by omega)) (fun k hk hp => by omega)
  have R6 := Lib.hid (r5.setRow (b := w.heap.size) hRw #[.string y.head.rel, .slice A y.head.args.length c, .int .i64 y.agg, .int .i64 y.col, .slice B bs.length d, .int .i64 y.pos])
  have K6 := Lib.hid (Kept.setRow (Kr.tr K4.out k5) (b := w.heap.size) (.inr (Nat.le_refl _)) #[.string y.head.rel, .slice A y.head.args.length c, .int .i64 y.agg, .int .i64 y.col, .slice B bs.length d, .int .i64 y.pos])
  clear r5 k5 S5 T5 S4 T4 HO4 HB4 R4 K4
  go_wp2_with (first
    | (refine wpList_load_row (o := ⟨some 11, _, _, _, _, _⟩) rfl 36 _ rfl b3 rfl 36 #[.string y.head.rel, .slice A y.head.args.length c, .int .i64 y.agg, .int .i64 y.col, .slice B bs.length d, .int .i64 y.pos] (0, 0) _ HB5.out Tryz.underlying36 rfl infoTru6 ?_)
    | (refine wpList_store_row (o := ⟨none, .store 36 _ _, _, _, _, _⟩) rfl 36 _ _ rfl w.heap.size #[.string y.head.rel, .slice A y.head.args.length c, .int .i64 y.agg, .int .i64 y.col, .slice B bs.length d, .int .i64 y.pos] rfl rfl 36 _ HO5.out infoTru6 rfl (by simp [Value.oneCell']) ?_)
    | fail)
  refine bodyPost_ret (v := .agg #[.string y.head.rel, .slice A y.head.args.length c, .int .i64 y.agg, .int .i64 y.col, .slice B bs.length d, .int .i64 y.pos]) (results_cell_row (P := Tryz.prog) rfl _ _ w.heap.size 36 _ (0, 0) _ rfl (HO5.out.setRow [.string y.head.rel, .slice A y.head.args.length c, .int .i64 y.agg, .int .i64 y.col, .slice B bs.length d, .int .i64 y.pos]) Tryz.underlying36 rfl infoTru6) rfl ?_
  exact ⟨A, c, B, d, rfl, ST.out, R6.out, K6.out⟩
end Go.Proofs.YtolnikpihedmbaaGreatDoor
