/- The reader's declarations. Conditions: as ParE's. -/
import Derived.Test.YtolnikpihedmbaaGreatDoorPbParT
set_option linter.unusedVariables false
set_option linter.unusedSimpArgs false
namespace Go.Proofs.YtolnikpihedmbaaGreatDoor
open Go.RowKit Go.Deep Go.Shelf

set_option maxRecDepth 100000 in
set_option maxHeartbeats 4000000 in
theorem declaration_any (R e : Nat) (s : PS) (w : World) (h : Rdr R e w s) :
    Calls Tryz.prog 29 #[.pointer (some ⟨R, 0, none⟩)] w (GotDe R e w (declM e s)) := by
  have hRw := h.lt
  have hb : Below w.heap.size w ((w.alloc (.cells #[.pointer (some ⟨R, 0, none⟩)] 66)).alloc (.cells #[.string noText, .slice none 0 0, .int .i64 0] 70)) := ((Below.refl _ _).alloc (Nat.le_refl _) _).alloc (by simp) _
  have o1 : Own (w.alloc (.cells #[.pointer (some ⟨R, 0, none⟩)] 66)) w.heap.size 66 [.pointer (some ⟨R, 0, none⟩)] := heap_alloc_new _ _
  have o2 := heap_alloc_new (w.alloc (.cells #[.pointer (some ⟨R, 0, none⟩)] 66)) (.cells #[.string noText, .slice none 0 0, .int .i64 0] 70)
  simp only [World.size_alloc] at o2
  have HO1 := Lib.hid (o1.alloc (.cells #[.string noText, .slice none 0 0, .int .i64 0] 70))
  have HO2 : Hid (Own ((w.alloc (.cells #[.pointer (some ⟨R, 0, none⟩)] 66)).alloc (.cells #[.string noText, .slice none 0 0, .int .i64 0] 70)) (w.heap.size + 1) 70 [.string noText, .slice none 0 0, .int .i64 0]) := o2
  have HNx := Lib.hid (next_any R e s _ (h.below hb))
  have HRl := Lib.hid (fun w (h : Rdr R e w s) => need_any R e cRel (by decide) s w h)
  have hrl : bts cRel = ⟨#[114, 101, 108]⟩ := rfl
  have hpt : bts cPt = ⟨#[46]⟩ := rfl
  rw [hrl] at HRl
  have HPt := Lib.hid (fun s w (h : Rdr R e w s) => need_any R e cPt (by decide) s w h)
  rw [hpt] at HPt
  have HTx := Lib.hid (txt_ok (e := e) (k := 2) (by decide) (h.tok.st (needT_st (e := e) s cRel)))
  have H0 := Lib.hid (h.below hb)
  have HB := Lib.hid hb
  have hmf := hmf_any
  have hfa := field_at (nx e s)
  have hE : declM e s = (⟨bts (needK e (needT e s cRel) 2).1, (listM e (kindM e) [] (needK e (needT e s cRel) 2).2).1, (nx e s).2.2⟩, needT e (listM e (kindM e) [] (needK e (needT e s cRel) 2).2).2 cPt) := rfl
  rw [hE]
  generalize needT e s cRel = s0 at *
  have HNK := Lib.hid (fun w (h : Rdr R e w s0) => needKind_any R e 2 (by decide) s0 w h)
  generalize needK e s0 2 = q at *
  obtain ⟨nt, s1⟩ := q
  generalize nx e s = tk at *
  obtain ⟨tq, tt, tp⟩ := tk
  simp only at HNK HTx hfa ⊢
  generalize bts nt = nm at *
  generalize (tp : Int) = at_ at *
  clear h hb o1 o2 hE hrl hpt
  go_enter Tryz.func29, Tryz.ntmps29
  go_wp2_with fail
  refine HNx.out.mono ?_
  rintro r w1 ⟨rfl, b1⟩
  have hs1 : w.heap.size + 2 ≤ w1.heap.size := by have := b1.size; simp at this; omega
  have hbx : Below w1.heap.size w1 (w1.alloc (.cells #[.string noText, .slice none 0 0, .int .i64 at_] 70)) := (Below.refl _ _).alloc (Nat.le_refl _) _
  have ho1 := Lib.hid ((HO1.out.below b1).below hbx)
  have ho2 := Lib.hid ((HO2.out.below b1).below hbx)
  have hob : Own (w1.alloc (.cells #[.string noText, .slice none 0 0, .int .i64 at_] 70)) w1.heap.size 70 [.string noText, .slice none 0 0, .int .i64 at_] := heap_alloc_new _ _
  have HOB := Lib.hid hob
  have R1 := Lib.hid ((H0.out.below b1).below hbx)
  have K1 := Lib.hid (Kr.of (R := R) ((HB.out.trans (b1.mono HB.out.size)).trans (hbx.mono (by omega))))
  have c0 := ho1.out.cell 0
  have q0 := ho1.out.lt
  simp only [List.getElem?_cons_zero] at c0
  obtain ⟨bx, hbxe⟩ : ∃ b, b = w1.heap.size := ⟨_, rfl⟩
  rw [← hbxe] at HOB
  have HBx := Lib.hid hbxe
  have hs2 : w.heap.size + 2 ≤ bx := by omega
  clear b1 hbx hob HNx H0 HO1 HO2 hs1 hbxe HB
  go_wp2_with fail
  rw [show (Value.pointer (some ⟨w1.heap.size, 0, none⟩)) = .pointer (some ⟨bx, 0, none⟩) by rw [HBx.out]]
  clear c0 q0
  refine (HRl.out _ R1.out).mono ?_
  rintro r wz ⟨rfl, rz, kz⟩
  have hO1z := Lib.hid (kz.own ho1.out (by simp; omega))
  have hO2z := Lib.hid (kz.own ho2.out (by simp; omega))
  have hOBz := Lib.hid (kz.own HOB.out (by simp; omega))
  have hKz := Lib.hid (Kr.tr K1.out kz)
  have Rz := Lib.hid rz
  have c0 := hO1z.out.cell 0
  have q0 := hO1z.out.lt
  simp only [List.getElem?_cons_zero] at c0
  clear rz kz ho1 ho2 HOB R1 K1 HRl
  go_wp2_with fail
  clear c0 q0
  refine (HNK.out _ Rz.out).mono ?_
  rintro r w2 ⟨rfl, r2, k2⟩
  have hO1 := Lib.hid (k2.own hO1z.out (by simp; omega))
  have hO2 := Lib.hid (k2.own hO2z.out (by simp; omega))
  have hOB := Lib.hid (k2.own hOBz.out (by simp; omega))
  have hK2 := Lib.hid (Kr.tr hKz.out k2)
  have d0 := hOB.out.cell 0
  have f0 := hOB.out.frozen 0
  have dq := hOB.out.lt
  have c0 := hO1.out.cell 0
  have q0 := hO1.out.lt
  simp only [List.getElem?_cons_zero] at d0 c0
  have hbs : Below bx w2 (w2.setCell ⟨bx, 0, none⟩ (.string nm)) := (Below.refl _ _).setCell (p := ⟨bx, 0, none⟩) (Nat.le_refl _) _
  have hOB3 : Own (w2.setCell ⟨bx, 0, none⟩ (.string nm)) bx 70 [.string nm, .slice none 0 0, .int .i64 at_] := hOB.out.set 0 (.string nm)
  have c03 : (w2.setCell ⟨bx, 0, none⟩ (.string nm)).cell? ⟨w.heap.size, 0, none⟩ = some (.pointer (some ⟨R, 0, none⟩)) := (hbs.cell (p := ⟨w.heap.size, 0, none⟩) (by show w.heap.size < bx; omega)).trans c0
  have HLs := Lib.hid (list_any R e 53 #[.pointer (some ⟨bx, 0, none⟩), .pointer (some ⟨w.heap.size, 0, none⟩)] (kindM e) (JD R bx nm at_ (w2.setCell ⟨bx, 0, none⟩ (.string nm))) [] s1 _ (r2.low (hbs.mono (by omega))) (enters_of Tryz.func53 (by kernel_rfl) rfl)
    (fun n a s' W' hn hr hj => decl1_any R e bx w.heap.size nm at_ _ n a s' W' hn hr ((World.cell?_of_block (w := w2.setCell ⟨bx, 0, none⟩ (.string nm)) (hj.2.2.block _ (by show w.heap.size < _; omega) (by show w.heap.size ≠ R; omega))).trans c03) (by omega) (by omega) hj)
    (fun n a W1 W2 hj hk => ⟨hj.1, (by obtain ⟨vv, hv⟩ := hj.2.1; exact ⟨vv, hv.kr hk (by omega)⟩), hj.2.2.tr (hk.kb (by obtain ⟨vv, hv⟩ := hj.2.1; exact Nat.le_of_lt hv.own.lt))⟩)
    kindM_st ⟨rfl, ⟨_, Acc.start hOB3 rfl (Nat.lt_succ_self _) (by simp; omega)⟩, Kb.refl _ _ _⟩)
  have hO2s := Lib.hid ((hbs.block _ (by omega)).trans hO2.out)
  have hO1s := Lib.hid ((hbs.block _ (by omega)).trans hO1.out)
  have hKs := Lib.hid (hK2.out.setCell (p := ⟨bx, 0, none⟩) (.inr (by show w.heap.size ≤ bx; omega)) (.string nm))
  clear r2 k2 hbs hOB3 c03 hOB hO1 hO2 hK2 HNK hO1z hO2z hOBz hKz Rz
  generalize listM e (kindM e) [] s1 = q at *
  obtain ⟨ks, s2⟩ := q
  go_wp2_with fail
  refine HLs.out.mono ?_
  rintro r w3 ⟨rfl, r3, n, hn, hl, ⟨vv, ha⟩, kb⟩
  obtain ⟨A, c, rfl⟩ := ha.val
  obtain ⟨css, hg⟩ := ha.row
  simp only at r3 hl ha hg ⊢
  have hO := Lib.hid ha.own
  have hO2 := Lib.hid (kb.own hO2s.out (by omega) (by omega))
  have hO1 := Lib.hid (kb.own hO1s.out (by omega) (by omega))
  have hst := Lib.hid (hg.rg rfl FK.c (by omega))
  have hK3 := Lib.hid (Kr.kbs hKs.out kb (by omega))
  have R3 := Lib.hid r3
  have HAL := Lib.hid ha.own.lt
  clear r3 ha hg kb HLs d0 f0 c0 q0 dq
  have c0 := hO1.out.cell 0
  have q0 := hO1.out.lt
  simp only [List.getElem?_cons_zero] at c0
  go_wp2_with fail
  refine (HPt.out _ _ R3.out).mono ?_
  rintro r w4 ⟨rfl, r4, k4⟩
  have hq3 := HAL.out
  have hO4 := Lib.hid (k4.own hO.out (by simp; omega))
  have hO24 := Lib.hid (k4.own hO2.out (by simp; omega))
  have R2 := Lib.hid (r4.setRow (b := w.heap.size + 1) (by omega) #[.string nm, .slice A ks.length c, .int .i64 at_])
  have K2 := Lib.hid (Kept.setRow (Kr.tr hK3.out k4) (b := w.heap.size + 1) (.inr (by omega)) #[.string nm, .slice A ks.length c, .int .i64 at_])
  have ST : Hid (Stab (w4.setRow (w.heap.size + 1) #[.string nm, .slice A ks.length c, .int .i64 at_]) (fun k => w.heap.size ≤ k) (fun W => Rg 1 IntC W A ks)) := hst.out.keep (by have := k4.size; simp; omega) (fun k hk hp => (setRow_other w4 _ k _ (by omega)).trans (k4.block k hk (by simp; omega))) (fun k hk hp => by omega)
  clear r4 k4 hst c0 q0
  go_wp2_with (first
    | (refine wpList_load_row (o := ⟨some 18, _, _, _, _, _⟩) rfl 70 _ rfl bx rfl 70 #[.string nm, .slice A ks.length c, .int .i64 at_] (0, 0) _ hO4.out Tryz.underlying70 rfl infoTde3 ?_)
    | (refine wpList_store_row (o := ⟨none, .store 70 _ _, _, _, _, _⟩) rfl 70 _ _ rfl (w.heap.size + 1) #[.string nm, .slice A ks.length c, .int .i64 at_] rfl rfl 70 _ hO24.out infoTde3 rfl (by simp [Value.oneCell']) ?_)
    | fail)
  refine bodyPost_ret (v := .agg #[.string nm, .slice A ks.length c, .int .i64 at_]) (results_cell_row (P := Tryz.prog) rfl _ _ (w.heap.size + 1) 70 _ (0, 0) _ rfl (hO24.out.setRow [.string nm, .slice A ks.length c, .int .i64 at_]) Tryz.underlying70 rfl infoTde3) rfl ?_
  exact ⟨A, c, rfl, ST.out, HTx.out, R2.out, K2.out⟩
end Go.Proofs.YtolnikpihedmbaaGreatDoor
