/- Rule on a text that is a rule; Parse. Conditions: what is laid; texts of at most 2^47 bytes. -/
import Derived.Test.YtolnikpihedmbaaGreatDoorPbParY
set_option linter.unusedVariables false
set_option linter.unusedSimpArgs false
namespace Go.Proofs.YtolnikpihedmbaaGreatDoor
open Go.RowKit Go.Deep Go.Shelf

set_option maxRecDepth 100000 in
set_option maxHeartbeats 8000000 in
theorem whole_rule (s : ByteArray) (w : World) (hs : s.size ≤ maxLen) (h : Rdy w) (hen : (ansOf s).2.1 = 0) (hre : (ruleM s.size ⟨(ansOf s).1, 0, 0⟩).2.rest = []) (hfl : (ruleM s.size ⟨(ansOf s).1, 0, 0⟩).2.flt = 0) :
    Calls Tryz.prog 23 #[.string s, .func (.func 24) #[] #[]] w (GotWR w ((ruleM s.size ⟨(ansOf s).1, 0, 0⟩).1, 0, 0)) := by
  have hb : Below w.heap.size w ((w.alloc (.cells #[.string noText, .slice none 0 0, .int .i64 0, .int .i64 0, .slice none 0 0, .int .i64 0] 36)).alloc (.cells #[.string noText, .slice none 0 0, .int .i64 0, .int .i64 0, .slice none 0 0, .int .i64 0] 36)) := ((Below.refl _ _).alloc (Nat.le_refl _) _).alloc (by simp) _
  have o1 : Own (w.alloc (.cells #[.string noText, .slice none 0 0, .int .i64 0, .int .i64 0, .slice none 0 0, .int .i64 0] 36)) w.heap.size 36 [.string noText, .slice none 0 0, .int .i64 0, .int .i64 0, .slice none 0 0, .int .i64 0] := heap_alloc_new _ _
  have o2 := heap_alloc_new (w.alloc (.cells #[.string noText, .slice none 0 0, .int .i64 0, .int .i64 0, .slice none 0 0, .int .i64 0] 36)) (.cells #[.string noText, .slice none 0 0, .int .i64 0, .int .i64 0, .slice none 0 0, .int .i64 0] 36)
  simp only [World.size_alloc] at o2
  have HO1 := Lib.hid (o1.alloc (.cells #[.string noText, .slice none 0 0, .int .i64 0, .int .i64 0, .slice none 0 0, .int .i64 0] 36))
  have HO2 : Hid (Own ((w.alloc (.cells #[.string noText, .slice none 0 0, .int .i64 0, .int .i64 0, .slice none 0 0, .int .i64 0] 36)).alloc (.cells #[.string noText, .slice none 0 0, .int .i64 0, .int .i64 0, .slice none 0 0, .int .i64 0] 36)) (w.heap.size + 1) 36 [.string noText, .slice none 0 0, .int .i64 0, .int .i64 0, .slice none 0 0, .int .i64 0]) := o2
  have HLs := Lib.hid (ListU_any s ((w.alloc (.cells #[.string noText, .slice none 0 0, .int .i64 0, .int .i64 0, .slice none 0 0, .int .i64 0] 36)).alloc (.cells #[.string noText, .slice none 0 0, .int .i64 0, .int .i64 0, .slice none 0 0, .int .i64 0] 36)) hs (h.below hb).1)
  have HRy := Lib.hid (h.below hb)
  have HB := Lib.hid hb
  obtain ⟨b0, hb0⟩ : ∃ b, b = w.heap.size := ⟨_, rfl⟩
  obtain ⟨b1, hb1⟩ : ∃ b, b = w.heap.size + 1 := ⟨_, rfl⟩
  have HB0 := Lib.hid hb0
  have HB1 := Lib.hid hb1
  rw [← hb0] at HO1
  rw [← hb1] at HO2
  have hszl : w.heap.size ≤ b0 ∧ b0 < b1 := by omega
  have HSz : Hid (b1 + 1 = ((w.alloc (.cells #[.string noText, .slice none 0 0, .int .i64 0, .int .i64 0, .slice none 0 0, .int .i64 0] 36)).alloc (.cells #[.string noText, .slice none 0 0, .int .i64 0, .int .i64 0, .slice none 0 0, .int .i64 0] 36)).heap.size) := by show _ = _; simp; omega
  have HAn := Lib.hid (ans_toks (s := s))
  unfold maxLen at hs
  have HRe0 := Lib.hid hre
  have HFl0 := Lib.hid hfl
  clear hre hfl
  have k1 : ∀ w, (binOp .neq 28 .nilIface .nilIface).run Tryz.prog w = .ok (.bool false) w := fun w => by kernel_rfl
  have k2 : ∀ n w, (binOp .neq 28 (eno n) .nilIface).run Tryz.prog w = .ok (.bool true) w := fun n w => by kernel_rfl
  clear h hb o1 o2 hb0 hb1
  generalize ansOf s = an at *
  obtain ⟨L, ep, en⟩ := an
  have hz : ep = 0 := hen
  subst hz
  simp only at HRe0 HFl0 ⊢
  have HTok := Lib.hid (HAn.out rfl).1
  have he : errV 0 = .nilIface := err0
  unfold LiU at HLs
  simp only [he] at HLs
  have HRd := Lib.hid (fun R e s w (h : Rdr R e w s) => rule_any R e s w h)
  have HRf := Lib.hid (fun R e s w (h : Rdr R e w s) => refuse_any R e 2 s w h)
  have eg := enters_of Tryz.func24 (by kernel_rfl) rfl
  clear HAn hen he
  go_enter Tryz.func23, Tryz.ntmps23
  go_wp2_with fail
  refine HLs.out.mono ?_
  rintro r w1 ⟨A0, c0, rfl, hc0, hr, bb⟩
  try simp only at hc0 hr
  have hRy1 := HRy.out.below bb
  have HR0 := Lib.hid (rdr_new (e := s.size) hRy1 HTok.out hc0 hr)
  have bx : Below w1.heap.size w1 (w1.alloc (.cells #[.slice A0 L.length c0, .int .i64 (s.size : Int), .int .i64 0, .int .i64 0] 89)) := (Below.refl _ _).alloc (Nat.le_refl _) _
  have HOr := Lib.hid ((HO1.out.below bb).below bx)
  have HOn := Lib.hid ((HO2.out.below bb).below bx)
  have HBb := Lib.hid (HB.out.trans ((bb.mono HB.out.size).trans (bx.mono (Nat.le_trans HB.out.size bb.size))))
  have hq1 : b1 < w1.heap.size := by have := HSz.out; have := bb.size; omega
  obtain ⟨R, hRe⟩ : ∃ b, b = w1.heap.size := ⟨_, rfl⟩
  rw [← hRe] at HR0
  have HRe := Lib.hid hRe
  have hqR : b1 < R := by omega
  have HRd1 := Lib.hid (HRd.out R s.size ⟨L, 0, 0⟩ _ HR0.out)
  have HSR : Hid ((w1.alloc (.cells #[.slice A0 L.length c0, .int .i64 (s.size : Int), .int .i64 0, .int .i64 0] 89)).heap.size = R + 1) := by show _ = _; simp; omega
  clear bb bx hr hc0 HLs hRy1 hRe hq1 HR0 HRd HO1 HO2 HB HSz HRy
  go_wp2_with fail
  rw [show (Value.pointer (some ⟨w.heap.size + 1, 0, none⟩)) = .pointer (some ⟨b1, 0, none⟩) by rw [HB1.out]]
  rw [show (Value.pointer (some ⟨w.heap.size, 0, none⟩)) = .pointer (some ⟨b0, 0, none⟩) by rw [HB0.out]]
  rw [show (Value.pointer (some ⟨w1.heap.size, 0, none⟩)) = .pointer (some ⟨R, 0, none⟩) by rw [HRe.out]]
  refine HRd1.out.mono ?_
  rintro r w2 ⟨A, c, B, d, rfl, st2, r2, k2'⟩
  rw [HSR.out] at st2
  have hs2 := k2'.size
  rw [HSR.out] at hs2
  have hE9 := HRe0.out
  have hf := HFl0.out
  clear HRe0 HFl0
  generalize ruleM s.size ⟨L, 0, 0⟩ = q at *
  obtain ⟨x, sp⟩ := q
  simp only at st2 r2 hE9 hf ⊢
  have HOr2 := Lib.hid ((k2'.own HOr.out (by simp; omega)).alloc (.cells #[.string x.head.rel, .slice A x.head.args.length c, .int .i64 x.agg, .int .i64 x.col, .slice B x.body.length d, .int .i64 x.pos] 36))
  have HOn2 := Lib.hid ((k2'.own HOn.out (by simp; omega)).alloc (.cells #[.string x.head.rel, .slice A x.head.args.length c, .int .i64 x.agg, .int .i64 x.col, .slice B x.body.length d, .int .i64 x.pos] 36))
  have HOx : Hid (Own (w2.alloc (.cells #[.string x.head.rel, .slice A x.head.args.length c, .int .i64 x.agg, .int .i64 x.col, .slice B x.body.length d, .int .i64 x.pos] 36)) w2.heap.size 36 [.string x.head.rel, .slice A x.head.args.length c, .int .i64 x.agg, .int .i64 x.col, .slice B x.body.length d, .int .i64 x.pos]) := heap_alloc_new _ _
  have ba : Below w2.heap.size w2 (w2.alloc (.cells #[.string x.head.rel, .slice A x.head.args.length c, .int .i64 x.agg, .int .i64 x.col, .slice B x.body.length d, .int .i64 x.pos] 36)) := (Below.refl _ _).alloc (Nat.le_refl _) _
  have HR2 := Lib.hid (r2.below ba)
  have ST2 := Lib.hid ((st2.below ba).more (P' := fun k => R < k) (fun k hk hp => by have h9 : R + 1 ≤ k := hp; omega))
  have HBw := Lib.hid (HBb.out.trans ((Kr.low k2' (by rw [HSR.out]; omega)).mono (show w.heap.size ≤ R by omega) |>.trans (ba.mono (by omega))))
  have hq5 : R < w2.heap.size := by omega
  clear st2 r2 k2' ba HRd1 HBb HOr HOn HSR hs2
  obtain ⟨A9, c9, hO9, hc9, ht9⟩ := HR2.out.own
  have r0 := hO9.cell 0
  have r2 := hO9.cell 2
  have r3 := hO9.cell 3
  have rq := hO9.lt
  simp only [rdL, List.getElem?_cons_zero, List.getElem?_cons_succ] at r0 r2 r3
  have hl9 : sp.rest.length = 0 := by rw [hE9]; rfl
  rw [hl9] at r0
  rw [hf] at r2
  go_wp2_with (first
    | (refine wpList_load_row (o := ⟨some 55, _, _, _, _, _⟩) rfl 36 _ rfl w2.heap.size rfl 36 #[.string x.head.rel, .slice A x.head.args.length c, .int .i64 x.agg, .int .i64 x.col, .slice B x.body.length d, .int .i64 x.pos] (0, 0) _ HOx.out Tryz.underlying36 rfl infoTru6 ?_)
    | (refine wpList_store_row (o := ⟨none, .store 36 _ _, _, _, _, _⟩) rfl 36 _ _ rfl b0 #[.string x.head.rel, .slice A x.head.args.length c, .int .i64 x.agg, .int .i64 x.col, .slice B x.body.length d, .int .i64 x.pos] rfl rfl 36 _ HOr2.out infoTru6 rfl (by simp [Value.oneCell']) ?_)
    | fail)
  try simp only [Exit.inBlock, Exit.then]
  refine bodyPost_ret (v := .tuple #[.agg #[.string x.head.rel, .slice A x.head.args.length c, .int .i64 x.agg, .int .i64 x.col, .slice B x.body.length d, .int .i64 x.pos], .int .i64 0, .nilIface]) (results_cell_row3 (P := Tryz.prog) (p := 4) (t := 5) (u := 6) rfl _ _ b0 36 _ (0, 0) _ rfl (HOr2.out.setRow [.string x.head.rel, .slice A x.head.args.length c, .int .i64 x.agg, .int .i64 x.col, .slice B x.body.length d, .int .i64 x.pos]) Tryz.underlying36 rfl infoTru6) rfl ?_
  exact ⟨A, c, B, d, by rw [err0] <;> rfl, ST2.out.keep (P' := fun k => w.heap.size ≤ k) (by simp) (fun k hk hp => setRow_other _ b0 k _ (by have h9 : R < k := hp; omega)) (fun k hk hp => by have h9 : R < k := hp; omega), below_setRow HBw.out b0 hszl.1 _⟩
set_option maxRecDepth 100000 in
set_option maxHeartbeats 2000000 in
theorem Parse_any (s : ByteArray) (w : World) (hs : s.size ≤ maxLen) (h : Rdy w) :
    Calls Tryz.prog 6 #[.string s] w (GotWP w (resP s)) := by
  have hb : Below w.heap.size w (w.alloc (.cells #[.slice none 0 0, .slice none 0 0] 26)) := (Below.refl _ _).alloc (Nat.le_refl _) _
  have HO : Hid (Own (w.alloc (.cells #[.slice none 0 0, .slice none 0 0] 26)) w.heap.size 26 [.slice none 0 0, .slice none 0 0]) := heap_alloc_new _ _
  have HW := Lib.hid (whole_prog s _ hs (h.below hb))
  have HB := Lib.hid hb
  generalize (resP s) = q at *
  obtain ⟨x, at_, en⟩ := q
  clear h hb
  go_enter Tryz.func6, Tryz.ntmps6
  go_wp2_with fail
  refine HW.out.mono ?_
  rintro r w2 ⟨A, c, B, d, rfl, hv, b2⟩
  simp only at hv ⊢
  have HO2 := Lib.hid (HO.out.below b2)
  have HBB := Lib.hid (HB.out.trans (b2.mono HB.out.size))
  have HV : Hid (Stab (w2.setRow w.heap.size #[.slice A x.decls.length c, .slice B x.rules.length d]) (fun k => w.heap.size ≤ k) (fun W => PgV W x A B)) := hv.keep (by simp) (fun k hk hp => setRow_other w2 _ k _ (by have h9 : (w.alloc (.cells #[.slice none 0 0, .slice none 0 0] 26)).heap.size ≤ k := hp; simp at h9; omega)) (fun k hk hp => by have h9 : (w.alloc (.cells #[.slice none 0 0, .slice none 0 0] 26)).heap.size ≤ k := hp; simp at h9; omega)
  clear hv b2 HW
  go_wp2_with (first
    | (refine wpList_store_row (o := ⟨none, .store 26 _ _, _, _, _, _⟩) rfl 26 _ _ rfl w.heap.size #[.slice A x.decls.length c, .slice B x.rules.length d] rfl rfl 26 _ HO2.out infoTpg2 rfl (by simp [Value.oneCell']) ?_)
    | fail)
  try simp only [Exit.inBlock, Exit.then]
  refine bodyPost_ret (v := .tuple #[.agg #[.slice A x.decls.length c, .slice B x.rules.length d], .int .i64 at_, errV en]) (results_cell_row3 (P := Tryz.prog) (p := 2) (t := 3) (u := 4) rfl _ _ w.heap.size 26 _ (0, 0) _ rfl (HO2.out.setRow [.slice A x.decls.length c, .slice B x.rules.length d]) Tryz.underlying26 rfl infoTpg2) rfl ?_
  exact ⟨A, c, B, d, rfl, HV.out, below_setRow HBB.out _ (Nat.le_refl _) _⟩
set_option maxRecDepth 100000 in
set_option maxHeartbeats 2000000 in
theorem Rule_any (s : ByteArray) (w : World) (hs : s.size ≤ maxLen) (h : Rdy w) (hen : (ansOf s).2.1 = 0) (hre : (ruleM s.size ⟨(ansOf s).1, 0, 0⟩).2.rest = []) (hfl : (ruleM s.size ⟨(ansOf s).1, 0, 0⟩).2.flt = 0) :
    Calls Tryz.prog 11 #[.string s] w (GotWR w ((ruleM s.size ⟨(ansOf s).1, 0, 0⟩).1, (0 : Int), (0 : Int))) := by
  have hb : Below w.heap.size w (w.alloc (.cells #[.string noText, .slice none 0 0, .int .i64 0, .int .i64 0, .slice none 0 0, .int .i64 0] 36)) := (Below.refl _ _).alloc (Nat.le_refl _) _
  have HO : Hid (Own (w.alloc (.cells #[.string noText, .slice none 0 0, .int .i64 0, .int .i64 0, .slice none 0 0, .int .i64 0] 36)) w.heap.size 36 [.string noText, .slice none 0 0, .int .i64 0, .int .i64 0, .slice none 0 0, .int .i64 0]) := heap_alloc_new _ _
  have HW := Lib.hid (whole_rule s _ hs (h.below hb) hen hre hfl)
  have HB := Lib.hid hb
  generalize ((ruleM s.size ⟨(ansOf s).1, 0, 0⟩).1, (0 : Int), (0 : Int)) = q at *
  obtain ⟨x, at_, en⟩ := q
  clear h hb hen hre hfl
  go_enter Tryz.func11, Tryz.ntmps11
  go_wp2_with fail
  refine HW.out.mono ?_
  rintro r w2 ⟨A, c, B, d, rfl, hv, b2⟩
  simp only at hv ⊢
  have HO2 := Lib.hid (HO.out.below b2)
  have HBB := Lib.hid (HB.out.trans (b2.mono HB.out.size))
  have HV : Hid (Stab (w2.setRow w.heap.size #[.string x.head.rel, .slice A x.head.args.length c, .int .i64 x.agg, .int .i64 x.col, .slice B x.body.length d, .int .i64 x.pos]) (fun k => w.heap.size ≤ k) (fun W => RuV W x A B)) := hv.keep (by simp) (fun k hk hp => setRow_other w2 _ k _ (by have h9 : (w.alloc (.cells #[.string noText, .slice none 0 0, .int .i64 0, .int .i64 0, .slice none 0 0, .int .i64 0] 36)).heap.size ≤ k := hp; simp at h9; omega)) (fun k hk hp => by have h9 : (w.alloc (.cells #[.string noText, .slice none 0 0, .int .i64 0, .int .i64 0, .slice none 0 0, .int .i64 0] 36)).heap.size ≤ k := hp; simp at h9; omega)
  clear hv b2 HW
  go_wp2_with (first
    | (refine wpList_store_row (o := ⟨none, .store 36 _ _, _, _, _, _⟩) rfl 36 _ _ rfl w.heap.size #[.string x.head.rel, .slice A x.head.args.length c, .int .i64 x.agg, .int .i64 x.col, .slice B x.body.length d, .int .i64 x.pos] rfl rfl 36 _ HO2.out infoTru6 rfl (by simp [Value.oneCell']) ?_)
    | fail)
  try simp only [Exit.inBlock, Exit.then]
  refine bodyPost_ret (v := .tuple #[.agg #[.string x.head.rel, .slice A x.head.args.length c, .int .i64 x.agg, .int .i64 x.col, .slice B x.body.length d, .int .i64 x.pos], .int .i64 at_, errV en]) (results_cell_row3 (P := Tryz.prog) (p := 2) (t := 3) (u := 4) rfl _ _ w.heap.size 36 _ (0, 0) _ rfl (HO2.out.setRow [.string x.head.rel, .slice A x.head.args.length c, .int .i64 x.agg, .int .i64 x.col, .slice B x.body.length d, .int .i64 x.pos]) Tryz.underlying36 rfl infoTru6) rfl ?_
  exact ⟨A, c, B, d, rfl, HV.out, below_setRow HBB.out _ (Nat.le_refl _) _⟩
end Go.Proofs.YtolnikpihedmbaaGreatDoor
