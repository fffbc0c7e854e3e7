/- The reader's heads and declarations. Conditions: as ParE's. -/
import Derived.Test.YtolnikpihedmbaaGreatDoorPbParS
set_option linter.unusedVariables false
set_option linter.unusedSimpArgs false
namespace Go.Proofs.YtolnikpihedmbaaGreatDoor
open Go.RowKit Go.Deep Go.Shelf

/-- a head, as far as it is read. -/
def JH (R bx : Nat) (W0 : World) (n : Nat) (x : TRu) (W : World) : Prop := x.head.args.length = n ∧ (∃ vv, Acc 4 57 36 FTm (bx + 1) bx 1 (hdL x vv) vv x.head.args W) ∧ Kb R bx W0 W ∧ x.body = []
set_option maxRecDepth 100000 in
set_option maxHeartbeats 4000000 in
theorem head1_any (R e bx br : Nat) (W0 : World) (n : Nat) (x : TRu) (s : PS) (W : World) (hn : n ≤ 6) (h : Rdr R e W s) (c1 : W.cell? ⟨br, 0, none⟩ = some (.pointer (some ⟨R, 0, none⟩))) (hbr : br ≠ R) (hR : R < bx) (hJ : JH R bx W0 n x W) :
    Calls Tryz.prog 66 #[.pointer (some ⟨br, 0, none⟩), .pointer (some ⟨bx, 0, none⟩)] W fun r W' => r = .returned (.tuple #[]) ∧ Rdr R e W' (itemM e x s).2 ∧ JH R bx W0 (n + 1) (itemM e x s).1 W' := by
  obtain ⟨hl, ⟨vv, hA⟩, hK, hbo⟩ := hJ
  have HIt := Lib.hid (item_any R e bx x vv s W h hA hR (by omega))
  have HK := Lib.hid hK
  have HBo := Lib.hid hbo
  have b1 := World.block_lt_of_cell? W _ c1
  have hbx := hA.own.lt
  simp only at b1
  have HL := Lib.hid hl
  have e0 : itemM e x s = ({ x with head := ⟨x.head.rel, x.head.args ++ [(itemT e x s).1.1]⟩, agg := (itemT e x s).1.2.1, col := (itemT e x s).1.2.2 }, (itemT e x s).2) := rfl
  rw [e0]
  generalize itemT e x s = q at *
  obtain ⟨⟨t, ag, co⟩, s2⟩ := q
  simp only at HIt ⊢
  clear hA hK h hl hbo e0
  go_enter Tryz.func66, Tryz.ntmps66
  go_wp2_with fail
  refine HIt.out.mono ?_
  rintro r w2 ⟨rfl, ok, r2, ha2, kb2⟩
  simp only at ok r2 ha2
  have hb4 : Below w2.heap.size w2 (w2.alloc (.cells #[.string t.v, .int .i64 t.k, .int .i64 t.n, .string t.s] 57)) := (Below.refl _ _).alloc (Nat.le_refl _) _
  have hb5 : Below w2.heap.size w2 ((w2.alloc (.cells #[.string t.v, .int .i64 t.k, .int .i64 t.n, .string t.s] 57)).alloc (.cells #[.string t.v, .int .i64 t.k, .int .i64 t.n, .string t.s] 57)) := hb4.alloc (by simp) _
  have ho5 := heap_alloc_new (w2.alloc (.cells #[.string t.v, .int .i64 t.k, .int .i64 t.n, .string t.s] 57)) (.cells #[.string t.v, .int .i64 t.k, .int .i64 t.n, .string t.s] 57)
  simp only [World.size_alloc] at ho5
  have ho5' : Own ((w2.alloc (.cells #[.string t.v, .int .i64 t.k, .int .i64 t.n, .string t.s] 57)).alloc (.cells #[.string t.v, .int .i64 t.k, .int .i64 t.n, .string t.s] 57)) (w2.heap.size + 1) 57 [.string t.v, .int .i64 t.k, .int .i64 t.n, .string t.s] := ho5
  obtain ⟨A5, c5, w5, hrun, hoB, hbB, _, hN5⟩ := (ha2.below hb5).app (P := Tryz.prog) (S := 31) Tryz.underlying31 infoTtm3 rfl (by decide) t [.string t.v, .int .i64 t.k, .int .i64 t.n, .string t.s] rfl (by simp [Value.oneCell']) ho5' (fun W' _ _ => ⟨rfl, ok⟩) (by rw [HL.out]; omega) (by decide)
  have z1 := ha2.own.cell 1
  have zq := ha2.own.lt
  have y1 := hoB.cell 1
  have yf := hoB.frozen 1
  have yq := hoB.lt
  simp only [hdL, List.getElem?_cons_zero, List.getElem?_cons_succ] at z1 y1
  have HN := Lib.hid hN5
  have hq1 : Below bx w2 ((w2.alloc (.cells #[.string t.v, .int .i64 t.k, .int .i64 t.n, .string t.s] 57)).alloc (.cells #[.string t.v, .int .i64 t.k, .int .i64 t.n, .string t.s] 57)) := hb5.mono (by omega)
  have hq2 : Below bx ((w2.alloc (.cells #[.string t.v, .int .i64 t.k, .int .i64 t.n, .string t.s] 57)).alloc (.cells #[.string t.v, .int .i64 t.k, .int .i64 t.n, .string t.s] 57)) w5 := hbB.mono (Nat.le_succ _)
  have hbC : Below bx w2 (w5.setCell ⟨bx, 1, none⟩ (.slice A5 (x.head.args.length + 1) c5)) := (hq1.trans hq2).setCell (p := ⟨bx, 1, none⟩) (Nat.le_refl _) _
  have HRd := Lib.hid (r2.low (hbC.mono (by omega)))
  have HKb := Lib.hid ((HK.out.tr kb2).tr (Kb.of hbC))
  clear hN5 ha2 hb4 hb5 ho5 ho5' hoB hbB hbC hq1 hq2 r2 kb2 ok HIt
  go_wp2_with (first
    | (refine wpList_append_done (o := ⟨some 10, _, _, _, _, _⟩) rfl (.tmp 7) (.tmp 9) 31 rfl rfl _ _ rfl rfl hrun ?_)
    | fail)
  go_end0
  exact ⟨rfl, HRd.out, by show _ = _; simp [HL.out], ⟨_, HN.out⟩, HKb.out, HBo.out⟩
theorem infoTru6 : (Tryz.prog.info? 36).map (·.size) = some 6 := by kernel_rfl
theorem infoTde3 : (Tryz.prog.info? 70).map (·.size) = some 3 := by kernel_rfl
/-- what reading a head leaves. -/
def GotHd (R e : Nat) (W : World) (q : TRu × PS) (r : Ending) (W' : World) : Prop :=
  ∃ A c, r = .returned (.agg #[.string q.1.head.rel, .slice A q.1.head.args.length c, .int .i64 q.1.agg, .int .i64 q.1.col, .slice none 0 0, .int .i64 q.1.pos]) ∧ Stab W' (fun k => W.heap.size ≤ k) (fun W => AmV W q.1.head A) ∧ q.1.body = [] ∧ Rdr R e W' q.2 ∧ Kr R W W'
/-- what reading a declaration leaves. -/
def GotDe (R e : Nat) (W : World) (q : TDe × PS) (r : Ending) (W' : World) : Prop :=
  ∃ A c, r = .returned (.agg #[.string q.1.rel, .slice A q.1.kinds.length c, .int .i64 q.1.pos]) ∧ Stab W' (fun k => W.heap.size ≤ k) (fun W => Rg 1 IntC W A q.1.kinds) ∧ q.1.rel.size ≤ 140737488351232 ∧ Rdr R e W' q.2 ∧ Kr R W W'
/-- a list keeps what is true of every item. -/
theorem listN_inv {α : Type} {e : Nat} {f : α → PS → α × PS} {Q : α → Prop} (hf : ∀ a s, Q a → Q (f a s).1) : ∀ (k : Nat) (a : α) (s : PS), Q a → Q (listN e f k a s).1
  | 0, a, s, h => hf a _ h
  | k + 1, a, s, h => by
    unfold listN
    dsimp only
    split
    · exact listN_inv hf k _ _ (hf a s h)
    · split <;> exact hf a s h
theorem listM_inv {α : Type} {e : Nat} {f : α → PS → α × PS} {Q : α → Prop} (hf : ∀ a s, Q a → Q (f a s).1) (a : α) (s : PS) (h : Q a) : Q (listM e f a s).1 := by
  unfold listM
  split
  · exact h
  · exact listN_inv hf 6 a _ h
theorem head_inv (e : Nat) (x : TRu) (s : PS) : (listM e (itemM e) x s).1.head.rel = x.head.rel ∧ (listM e (itemM e) x s).1.pos = x.pos :=
  listM_inv (f := itemM e) (Q := fun y => y.head.rel = x.head.rel ∧ y.pos = x.pos) (fun a s h => h) x s ⟨rfl, rfl⟩
set_option maxRecDepth 100000 in
set_option maxHeartbeats 4000000 in
theorem head_any (R e : Nat) (s : PS) (w : World) (h : Rdr R e w s) :
    Calls Tryz.prog 45 #[.pointer (some ⟨R, 0, none⟩)] w (GotHd R e w (headM e s)) := by
  have hRw := h.lt
  have hb : Below w.heap.size w ((w.alloc (.cells #[.pointer (some ⟨R, 0, none⟩)] 66)).alloc (.cells #[.string noText, .slice none 0 0, .int .i64 0, .int .i64 0, .slice none 0 0, .int .i64 0] 36)) := ((Below.refl _ _).alloc (Nat.le_refl _) _).alloc (by simp) _
  have o1 : Own (w.alloc (.cells #[.pointer (some ⟨R, 0, none⟩)] 66)) w.heap.size 66 [.pointer (some ⟨R, 0, none⟩)] := heap_alloc_new _ _
  have o2 := heap_alloc_new (w.alloc (.cells #[.pointer (some ⟨R, 0, none⟩)] 66)) (.cells #[.string noText, .slice none 0 0, .int .i64 0, .int .i64 0, .slice none 0 0, .int .i64 0] 36)
  simp only [World.size_alloc] at o2
  have HO1 := Lib.hid (o1.alloc (.cells #[.string noText, .slice none 0 0, .int .i64 0, .int .i64 0, .slice none 0 0, .int .i64 0] 36))
  have HO2 : Hid (Own ((w.alloc (.cells #[.pointer (some ⟨R, 0, none⟩)] 66)).alloc (.cells #[.string noText, .slice none 0 0, .int .i64 0, .int .i64 0, .slice none 0 0, .int .i64 0] 36)) (w.heap.size + 1) 36 [.string noText, .slice none 0 0, .int .i64 0, .int .i64 0, .slice none 0 0, .int .i64 0]) := o2
  have HNx := Lib.hid (next_any R e s _ (h.below hb))
  have HNK := Lib.hid (fun w (h : Rdr R e w s) => needKind_any R e 2 (by decide) s w h)
  have HTx := Lib.hid (txt_ok (e := e) (k := 2) (by decide) h.tok)
  have H0 := Lib.hid (h.below hb)
  have HB := Lib.hid hb
  have hmf := hmf_any
  have hfa := field_at (nx e s)
  have hE : headM e s = listM e (itemM e) ⟨⟨bts (needK e s 2).1, []⟩, 0, 0, [], (nx e s).2.2⟩ (needK e s 2).2 := rfl
  rw [hE]
  generalize needK e s 2 = q at *
  obtain ⟨nt, s1⟩ := q
  generalize nx e s = tk at *
  obtain ⟨tq, tt, tp⟩ := tk
  simp only at HNK HTx hfa ⊢
  generalize bts nt = nm at *
  generalize (tp : Int) = at_ at *
  clear h hb o1 o2 hE
  go_enter Tryz.func45, Tryz.ntmps45
  go_wp2_with fail
  refine HNx.out.mono ?_
  rintro r w1 ⟨rfl, b1⟩
  have hs1 : w.heap.size + 2 ≤ w1.heap.size := by have := b1.size; simp at this; omega
  have hbx : Below w1.heap.size w1 (w1.alloc (.cells #[.string noText, .slice none 0 0, .int .i64 0, .int .i64 0, .slice none 0 0, .int .i64 at_] 36)) := (Below.refl _ _).alloc (Nat.le_refl _) _
  have ho1 := Lib.hid ((HO1.out.below b1).below hbx)
  have ho2 := Lib.hid ((HO2.out.below b1).below hbx)
  have hob : Own (w1.alloc (.cells #[.string noText, .slice none 0 0, .int .i64 0, .int .i64 0, .slice none 0 0, .int .i64 at_] 36)) w1.heap.size 36 [.string noText, .slice none 0 0, .int .i64 0, .int .i64 0, .slice none 0 0, .int .i64 at_] := heap_alloc_new _ _
  have HOB := Lib.hid hob
  have R1 := Lib.hid ((H0.out.below b1).below hbx)
  have K1 := Lib.hid (Kr.of (R := R) ((HB.out.trans (b1.mono HB.out.size)).trans (hbx.mono (by omega))))
  have c0 := ho1.out.cell 0
  have q0 := ho1.out.lt
  simp only [List.getElem?_cons_zero] at c0
  obtain ⟨bx, hbxe⟩ : ∃ b, b = w1.heap.size := ⟨_, rfl⟩
  rw [← hbxe] at HOB
  have HBx := Lib.hid hbxe
  have hs2 : w.heap.size + 2 ≤ bx := by omega
  clear b1 hbx hob HNx H0 HO1 HO2 hs1 hbxe HB
  go_wp2_with fail
  rw [show (Value.pointer (some ⟨w1.heap.size, 0, none⟩)) = .pointer (some ⟨bx, 0, none⟩) by rw [HBx.out]]
  clear c0 q0
  refine (HNK.out _ R1.out).mono ?_
  rintro r w2 ⟨rfl, r2, k2⟩
  have hO1 := Lib.hid (k2.own ho1.out (by simp; omega))
  have hO2 := Lib.hid (k2.own ho2.out (by simp; omega))
  have hOB := Lib.hid (k2.own HOB.out (by simp; omega))
  have hK2 := Lib.hid (Kr.tr K1.out k2)
  have d0 := hOB.out.cell 0
  have f0 := hOB.out.frozen 0
  have dq := hOB.out.lt
  have c0 := hO1.out.cell 0
  have q0 := hO1.out.lt
  simp only [List.getElem?_cons_zero] at d0 c0
  have hbs : Below bx w2 (w2.setCell ⟨bx, 0, none⟩ (.string nm)) := (Below.refl _ _).setCell (p := ⟨bx, 0, none⟩) (Nat.le_refl _) _
  have hOB3 : Own (w2.setCell ⟨bx, 0, none⟩ (.string nm)) bx 36 (hdL ⟨⟨nm, []⟩, 0, 0, [], at_⟩ (.slice none 0 0)) := hOB.out.set 0 (.string nm)
  have c03 : (w2.setCell ⟨bx, 0, none⟩ (.string nm)).cell? ⟨w.heap.size, 0, none⟩ = some (.pointer (some ⟨R, 0, none⟩)) := (hbs.cell (p := ⟨w.heap.size, 0, none⟩) (by show w.heap.size < bx; omega)).trans c0
  have HLs := Lib.hid (list_any R e 66 #[.pointer (some ⟨w.heap.size, 0, none⟩), .pointer (some ⟨bx, 0, none⟩)] (itemM e) (JH R bx (w2.setCell ⟨bx, 0, none⟩ (.string nm))) ⟨⟨nm, []⟩, 0, 0, [], at_⟩ s1 _ (r2.low (hbs.mono (by omega))) (enters_of Tryz.func66 (by kernel_rfl) rfl)
    (fun n a s' W' hn hr hj => head1_any R e bx w.heap.size _ n a s' W' hn hr ((World.cell?_of_block (w := w2.setCell ⟨bx, 0, none⟩ (.string nm)) (hj.2.2.1.block _ (by show w.heap.size < _; omega) (by show w.heap.size ≠ R; omega))).trans c03) (by omega) (by omega) hj)
    (fun n a W1 W2 hj hk => ⟨hj.1, (by obtain ⟨vv, hv⟩ := hj.2.1; exact ⟨vv, hv.kr hk (by omega)⟩), hj.2.2.1.tr (hk.kb (by obtain ⟨vv, hv⟩ := hj.2.1; exact Nat.le_of_lt hv.own.lt)), hj.2.2.2⟩)
    itemM_st ⟨rfl, ⟨_, Acc.start hOB3 rfl (Nat.lt_succ_self _) (by simp; omega)⟩, Kb.refl _ _ _, rfl⟩)
  have hO2s := Lib.hid ((hbs.block _ (by omega)).trans hO2.out)
  have hKs := Lib.hid (hK2.out.setCell (p := ⟨bx, 0, none⟩) (.inr (by show w.heap.size ≤ bx; omega)) (.string nm))
  have HInv := Lib.hid (head_inv e ⟨⟨nm, []⟩, 0, 0, [], at_⟩ s1)
  clear r2 k2 hbs hOB3 c03 hOB hO1 hO2 hK2 ho1 ho2 HOB R1 K1 HNK
  generalize listM e (itemM e) ⟨⟨nm, []⟩, 0, 0, [], at_⟩ s1 = q at *
  obtain ⟨y, s2⟩ := q
  go_wp2_with fail
  refine HLs.out.mono ?_
  rintro r w3 ⟨rfl, r3, n, hn, hl, ⟨vv, ha⟩, kb, hbo⟩
  obtain ⟨A, c, rfl⟩ := ha.val
  obtain ⟨css, hg⟩ := ha.row
  simp only at r3 hl ha hg hbo HInv ⊢
  have hO := Lib.hid ha.own
  have hO2 := Lib.hid (kb.own hO2s.out (by omega) (by omega))
  have hst := hg.rg rfl FTm.c (by omega)
  have R2 := Lib.hid (r3.setRow (b := w.heap.size + 1) (by omega) #[.string y.head.rel, .slice A y.head.args.length c, .int .i64 y.agg, .int .i64 y.col, .slice none 0 0, .int .i64 y.pos])
  have K2 := Lib.hid (Kept.setRow (Kr.kbs hKs.out kb (by omega)) (b := w.heap.size + 1) (.inr (by omega)) #[.string y.head.rel, .slice A y.head.args.length c, .int .i64 y.agg, .int .i64 y.col, .slice none 0 0, .int .i64 y.pos])
  have ST : Hid (Stab (w3.setRow (w.heap.size + 1) #[.string y.head.rel, .slice A y.head.args.length c, .int .i64 y.agg, .int .i64 y.col, .slice none 0 0, .int .i64 y.pos]) (fun k => w.heap.size ≤ k) (fun W => AmV W y.head A)) := (hst.imp (G := fun W => AmV W y.head A) (fun W h => ⟨by rw [HInv.out.1]; exact HTx.out, h⟩)).keep (by simp) (fun k hk hp => setRow_other w3 _ k _ (by omega)) (fun k hk hp => by omega)
  have HBo := Lib.hid hbo
  clear r3 ha hg kb hst HLs hbo d0 f0 c0
  go_wp2_with (first
    | (refine wpList_load_row (o := ⟨some 15, _, _, _, _, _⟩) rfl 36 _ rfl bx rfl 36 #[.string y.head.rel, .slice A y.head.args.length c, .int .i64 y.agg, .int .i64 y.col, .slice none 0 0, .int .i64 y.pos] (0, 0) _ hO.out Tryz.underlying36 rfl infoTru6 ?_)
    | (refine wpList_store_row (o := ⟨none, .store 36 _ _, _, _, _, _⟩) rfl 36 _ _ rfl (w.heap.size + 1) #[.string y.head.rel, .slice A y.head.args.length c, .int .i64 y.agg, .int .i64 y.col, .slice none 0 0, .int .i64 y.pos] rfl rfl 36 _ hO2.out infoTru6 rfl (by simp [Value.oneCell']) ?_)
    | fail)
  refine bodyPost_ret (v := .agg #[.string y.head.rel, .slice A y.head.args.length c, .int .i64 y.agg, .int .i64 y.col, .slice none 0 0, .int .i64 y.pos]) (results_cell_row (P := Tryz.prog) rfl _ _ (w.heap.size + 1) 36 _ (0, 0) _ rfl (hO2.out.setRow [.string y.head.rel, .slice A y.head.args.length c, .int .i64 y.agg, .int .i64 y.col, .slice none 0 0, .int .i64 y.pos]) Tryz.underlying36 rfl infoTru6) rfl ?_
  exact ⟨A, c, rfl, ST.out, HBo.out, R2.out, K2.out⟩
end Go.Proofs.YtolnikpihedmbaaGreatDoor
