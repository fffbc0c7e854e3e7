/- The reader's expressions. Conditions: as ParE's. The reader's operand, and expressions within so many parentheses. Conditions: as ParE's. -/
import Derived.Test.YtolnikpihedmbaaGreatDoorPbParI
import Derived.Laws.EntriesVeiled
set_option linter.unusedVariables false
set_option linter.unusedSimpArgs false
namespace Go.Proofs.YtolnikpihedmbaaGreatDoor
open Go.RowKit Go.Deep Go.Shelf

theorem hmf_any (fn : Fn) (first cap : Array Value) (w : World) : (Instr.makeFunc fn first cap).run Tryz.prog w = .ok (.func fn first cap) w := rfl
/-- a result, laid into its box. -/
theorem GotE.lay {R e b : Nat} {W W1 W2 : World} {q : TEx × PS} {A : Option Addr} {c : Nat} (k1 : Kr R W W1) (hb : W.heap.size ≤ b) (hb1 : b < W1.heap.size) (hR : R < W.heap.size)
    (s2 : Stab W2 (fun k => W1.heap.size ≤ k) (fun W => ExV W q.1 A)) (r2 : Rdr R e W2 q.2) (k2 : Kr R W1 W2) (cs : Array Value) : GotE R e W q (.returned (exV q.1 A c)) (W2.setRow b cs) :=
  ⟨A, c, rfl, s2.keep (by simp) (fun k hk hp => setRow_other W2 b k _ (by omega)) (fun k hk hp => by have := k1.size; omega), r2.setRow (by omega) _, Kept.setRow (Kr.tr k1 k2) (.inr hb) _⟩
set_option maxRecDepth 100000 in
set_option maxHeartbeats 400000 in
theorem expr1_any (R e n br bn : Nat) (oper : PS → TEx × PS) (s : PS) (W : World) (h : Rdr R e W s) (c1 : W.cell? ⟨br, 0, none⟩ = some (.pointer (some ⟨R, 0, none⟩))) (c2 : W.cell? ⟨bn, 0, none⟩ = some (.int .i64 (n : Int)))
    (HOp : ∀ s w, Rdr R e w s → Calls Tryz.prog 102 #[.pointer (some ⟨R, 0, none⟩), .int .i64 (n : Int)] w (GotE R e w (oper s))) :
    Calls Tryz.prog 101 #[.pointer (some ⟨br, 0, none⟩), .pointer (some ⟨bn, 0, none⟩)] W (GotE R e W (oper s)) := by
  have o0 : Own (W.alloc (.cells #[.int .i64 0, .string noText, .int .i64 0, .int .i64 0, .string noText, .slice none 0 0] 60)) W.heap.size 60 [.int .i64 0, .string noText, .int .i64 0, .int .i64 0, .string noText, .slice none 0 0] := heap_alloc_new _ _
  have hRw := h.lt
  have k0 : Kr R W (W.alloc (.cells #[.int .i64 0, .string noText, .int .i64 0, .int .i64 0, .string noText, .slice none 0 0] 60)) := (Kept.refl [R] W).alloc _
  have HC := Lib.hid (HOp s _ (h.below ((Below.refl W.heap.size W).alloc (o := .cells #[.int .i64 0, .string noText, .int .i64 0, .int .i64 0, .string noText, .slice none 0 0] 60) (Nat.le_refl _))))
  have b1 := World.block_lt_of_cell? W _ c1
  have b2 := World.block_lt_of_cell? W _ c2
  have HO0 := Lib.hid o0
  have K0 := Lib.hid k0
  simp only at b1 b2
  clear h HOp o0 k0
  go_enter Tryz.func101, Tryz.ntmps101
  go_wp2_with fail
  refine HC.out.mono ?_
  rintro r w2 ⟨A, c, rfl, s2, r2, k2⟩
  have HO2 := Lib.hid (k2.own HO0.out (by simp; omega))
  have HG := Lib.hid (fun cs => GotE.lay (b := W.heap.size) (c := c) K0.out (Nat.le_refl _) (by simp) hRw s2 r2 k2 cs)
  clear s2 r2 k2 HC
  generalize oper s = q at *
  obtain ⟨x, sp⟩ := q
  simp only at HG ⊢
  go_wp2_with (refine wpList_store_row (o := ⟨none, .store 60 _ _, _, _, _, _⟩) rfl 60 _ _ rfl W.heap.size #[.int .i64 x.op, .string x.t.v, .int .i64 x.t.k, .int .i64 x.t.n, .string x.t.s, .slice A x.kids.length c] rfl rfl 60 _ HO2.out infoTexp rfl (by simp [Value.oneCell']) ?_)
  refine bodyPost_ret (v := .agg #[.int .i64 x.op, .string x.t.v, .int .i64 x.t.k, .int .i64 x.t.n, .string x.t.s, .slice A x.kids.length c]) (results_cell_row (P := Tryz.prog) rfl _ _ W.heap.size 60 _ (0, 0) _ rfl (HO2.out.setRow [.int .i64 x.op, .string x.t.v, .int .i64 x.t.k, .int .i64 x.t.n, .string x.t.s, .slice A x.kids.length c]) Tryz.underlying60 rfl infoTexp) rfl ?_
  exact HG.out _
set_option maxRecDepth 100000 in
set_option maxHeartbeats 400000 in
theorem expr2_any (R e n br bn bo : Nat) (oper : PS → TEx × PS) (s : PS) (W : World) (h : Rdr R e W s) (c1 : W.cell? ⟨br, 0, none⟩ = some (.pointer (some ⟨R, 0, none⟩))) (c2 : W.cell? ⟨bn, 0, none⟩ = some (.int .i64 (n : Int)))
    (c3 : W.cell? ⟨bo, 0, none⟩ = some (.func (.func 101) #[] #[.pointer (some ⟨br, 0, none⟩), .pointer (some ⟨bn, 0, none⟩)])) (hbr : br ≠ R) (hbn : bn ≠ R) (hst : ∀ s, Stp e s (oper s).2)
    (HOp : ∀ s w, Rdr R e w s → Calls Tryz.prog 102 #[.pointer (some ⟨R, 0, none⟩), .int .i64 (n : Int)] w (GotE R e w (oper s))) :
    Calls Tryz.prog 103 #[.pointer (some ⟨br, 0, none⟩), .pointer (some ⟨bo, 0, none⟩)] W (GotE R e W (chainM e 5 oper s)) := by
  have o0 : Own (W.alloc (.cells #[.int .i64 0, .string noText, .int .i64 0, .int .i64 0, .string noText, .slice none 0 0] 60)) W.heap.size 60 [.int .i64 0, .string noText, .int .i64 0, .int .i64 0, .string noText, .slice none 0 0] := heap_alloc_new _ _
  have hRw := h.lt
  have k0 : Kr R W (W.alloc (.cells #[.int .i64 0, .string noText, .int .i64 0, .int .i64 0, .string noText, .slice none 0 0] 60)) := (Kept.refl [R] W).alloc _
  have HC := Lib.hid (chain_any R e 5 101 #[.pointer (some ⟨br, 0, none⟩), .pointer (some ⟨bn, 0, none⟩)] oper s _ (h.below ((Below.refl W.heap.size W).alloc (o := .cells #[.int .i64 0, .string noText, .int .i64 0, .int .i64 0, .string noText, .slice none 0 0] 60) (Nat.le_refl _))) (enters_of Tryz.func101 (by kernel_rfl) rfl)
    (fun s' W' hk hr => expr1_any R e n br bn oper s' W' hr (Kr.cell_of (Kr.tr k0 hk) c1 hbr) (Kr.cell_of (Kr.tr k0 hk) c2 hbn) HOp) hst)
  have b1 := World.block_lt_of_cell? W _ c1
  have b3 := World.block_lt_of_cell? W _ c3
  have HO0 := Lib.hid o0
  have K0 := Lib.hid k0
  simp only at b1 b3
  clear h HOp o0 k0 hst c2
  go_enter Tryz.func103, Tryz.ntmps103
  go_wp2_with fail
  refine HC.out.mono ?_
  rintro r w2 ⟨A, c, rfl, s2, r2, k2⟩
  have HO2 := Lib.hid (k2.own HO0.out (by simp; omega))
  have HG := Lib.hid (fun cs => GotE.lay (b := W.heap.size) (c := c) K0.out (Nat.le_refl _) (by simp) hRw s2 r2 k2 cs)
  clear s2 r2 k2 HC
  generalize chainM e 5 oper s = q at *
  obtain ⟨x, sp⟩ := q
  simp only at HG ⊢
  go_wp2_with (refine wpList_store_row (o := ⟨none, .store 60 _ _, _, _, _, _⟩) rfl 60 _ _ rfl W.heap.size #[.int .i64 x.op, .string x.t.v, .int .i64 x.t.k, .int .i64 x.t.n, .string x.t.s, .slice A x.kids.length c] rfl rfl 60 _ HO2.out infoTexp rfl (by simp [Value.oneCell']) ?_)
  refine bodyPost_ret (v := .agg #[.int .i64 x.op, .string x.t.v, .int .i64 x.t.k, .int .i64 x.t.n, .string x.t.s, .slice A x.kids.length c]) (results_cell_row (P := Tryz.prog) rfl _ _ W.heap.size 60 _ (0, 0) _ rfl (HO2.out.setRow [.int .i64 x.op, .string x.t.v, .int .i64 x.t.k, .int .i64 x.t.n, .string x.t.s, .slice A x.kids.length c]) Tryz.underlying60 rfl infoTexp) rfl ?_
  exact HG.out _
set_option maxRecDepth 100000 in
set_option maxHeartbeats 1000000 in
theorem expression_of (R e n : Nat) (oper : PS → TEx × PS) (s : PS) (w : World) (h : Rdr R e w s) (hst : ∀ s, Stp e s (oper s).2)
    (HOp : ∀ s w, Rdr R e w s → Calls Tryz.prog 102 #[.pointer (some ⟨R, 0, none⟩), .int .i64 (n : Int)] w (GotE R e w (oper s))) :
    Calls Tryz.prog 91 #[.pointer (some ⟨R, 0, none⟩), .int .i64 (n : Int)] w (GotE R e w (exprOf e oper s)) := by
  have hRw := h.lt
  have hb : Below w.heap.size w ((((w.alloc (.cells #[.pointer (some ⟨R, 0, none⟩)] 66)).alloc (.cells #[.int .i64 (n : Int)] 3)).alloc (.cells #[.int .i64 0, .string noText, .int .i64 0, .int .i64 0, .string noText, .slice none 0 0] 60)).alloc (.cells #[.func (.func 101) #[] #[.pointer (some ⟨w.heap.size, 0, none⟩), .pointer (some ⟨w.heap.size + 1, 0, none⟩)]] 154)) := ((((Below.refl _ _).alloc (Nat.le_refl _) _).alloc (by simp) _).alloc (by simp; omega) _).alloc (by simp; omega) _
  have k0 : Kr R w ((((w.alloc (.cells #[.pointer (some ⟨R, 0, none⟩)] 66)).alloc (.cells #[.int .i64 (n : Int)] 3)).alloc (.cells #[.int .i64 0, .string noText, .int .i64 0, .int .i64 0, .string noText, .slice none 0 0] 60)).alloc (.cells #[.func (.func 101) #[] #[.pointer (some ⟨w.heap.size, 0, none⟩), .pointer (some ⟨w.heap.size + 1, 0, none⟩)]] 154)) := Kr.of hb
  have o1 : Own (w.alloc (.cells #[.pointer (some ⟨R, 0, none⟩)] 66)) w.heap.size 66 [.pointer (some ⟨R, 0, none⟩)] := heap_alloc_new _ _
  have o2 := heap_alloc_new (w.alloc (.cells #[.pointer (some ⟨R, 0, none⟩)] 66)) (.cells #[.int .i64 (n : Int)] 3)
  have o3 := heap_alloc_new ((w.alloc (.cells #[.pointer (some ⟨R, 0, none⟩)] 66)).alloc (.cells #[.int .i64 (n : Int)] 3)) (.cells #[.int .i64 0, .string noText, .int .i64 0, .int .i64 0, .string noText, .slice none 0 0] 60)
  have o4 := heap_alloc_new (((w.alloc (.cells #[.pointer (some ⟨R, 0, none⟩)] 66)).alloc (.cells #[.int .i64 (n : Int)] 3)).alloc (.cells #[.int .i64 0, .string noText, .int .i64 0, .int .i64 0, .string noText, .slice none 0 0] 60)) (.cells #[.func (.func 101) #[] #[.pointer (some ⟨w.heap.size, 0, none⟩), .pointer (some ⟨w.heap.size + 1, 0, none⟩)]] 154)
  simp only [World.size_alloc] at o2 o3 o4
  have o1' : Own ((((w.alloc (.cells #[.pointer (some ⟨R, 0, none⟩)] 66)).alloc (.cells #[.int .i64 (n : Int)] 3)).alloc (.cells #[.int .i64 0, .string noText, .int .i64 0, .int .i64 0, .string noText, .slice none 0 0] 60)).alloc (.cells #[.func (.func 101) #[] #[.pointer (some ⟨w.heap.size, 0, none⟩), .pointer (some ⟨w.heap.size + 1, 0, none⟩)]] 154)) w.heap.size 66 [.pointer (some ⟨R, 0, none⟩)] := ((o1.alloc _).alloc _).alloc _
  have o2' : Own ((((w.alloc (.cells #[.pointer (some ⟨R, 0, none⟩)] 66)).alloc (.cells #[.int .i64 (n : Int)] 3)).alloc (.cells #[.int .i64 0, .string noText, .int .i64 0, .int .i64 0, .string noText, .slice none 0 0] 60)).alloc (.cells #[.func (.func 101) #[] #[.pointer (some ⟨w.heap.size, 0, none⟩), .pointer (some ⟨w.heap.size + 1, 0, none⟩)]] 154)) (w.heap.size + 1) 3 [.int .i64 (n : Int)] := (Own.alloc (w := ((w.alloc (.cells #[.pointer (some ⟨R, 0, none⟩)] 66)).alloc (.cells #[.int .i64 (n : Int)] 3))) o2 _).alloc _
  have o3' : Own ((((w.alloc (.cells #[.pointer (some ⟨R, 0, none⟩)] 66)).alloc (.cells #[.int .i64 (n : Int)] 3)).alloc (.cells #[.int .i64 0, .string noText, .int .i64 0, .int .i64 0, .string noText, .slice none 0 0] 60)).alloc (.cells #[.func (.func 101) #[] #[.pointer (some ⟨w.heap.size, 0, none⟩), .pointer (some ⟨w.heap.size + 1, 0, none⟩)]] 154)) (w.heap.size + 1 + 1) 60 [.int .i64 0, .string noText, .int .i64 0, .int .i64 0, .string noText, .slice none 0 0] := Own.alloc (w := (((w.alloc (.cells #[.pointer (some ⟨R, 0, none⟩)] 66)).alloc (.cells #[.int .i64 (n : Int)] 3)).alloc (.cells #[.int .i64 0, .string noText, .int .i64 0, .int .i64 0, .string noText, .slice none 0 0] 60))) o3 _
  have o4' : Own ((((w.alloc (.cells #[.pointer (some ⟨R, 0, none⟩)] 66)).alloc (.cells #[.int .i64 (n : Int)] 3)).alloc (.cells #[.int .i64 0, .string noText, .int .i64 0, .int .i64 0, .string noText, .slice none 0 0] 60)).alloc (.cells #[.func (.func 101) #[] #[.pointer (some ⟨w.heap.size, 0, none⟩), .pointer (some ⟨w.heap.size + 1, 0, none⟩)]] 154)) (w.heap.size + 1 + 1 + 1) 154 [.func (.func 101) #[] #[.pointer (some ⟨w.heap.size, 0, none⟩), .pointer (some ⟨w.heap.size + 1, 0, none⟩)]] := o4
  have c1 := o1'.cell 0
  have c2 := o2'.cell 0
  have c4 := o4'.cell 0
  simp only [List.getElem?_cons_zero] at c1 c2 c4
  have hsz : ((((w.alloc (.cells #[.pointer (some ⟨R, 0, none⟩)] 66)).alloc (.cells #[.int .i64 (n : Int)] 3)).alloc (.cells #[.int .i64 0, .string noText, .int .i64 0, .int .i64 0, .string noText, .slice none 0 0] 60)).alloc (.cells #[.func (.func 101) #[] #[.pointer (some ⟨w.heap.size, 0, none⟩), .pointer (some ⟨w.heap.size + 1, 0, none⟩)]] 154)).heap.size = w.heap.size + 4 := by simp
  have HC := Lib.hid (chain_any R e 4 103 #[.pointer (some ⟨w.heap.size, 0, none⟩), .pointer (some ⟨w.heap.size + 1 + 1 + 1, 0, none⟩)] (chainM e 5 oper) s _ (h.below hb) (enters_of Tryz.func103 (by kernel_rfl) rfl)
    (fun s' W' hk hr => expr2_any R e n w.heap.size (w.heap.size + 1) (w.heap.size + 1 + 1 + 1) oper s' W' hr (Kr.cell_of hk c1 (by simp; omega)) (Kr.cell_of hk c2 (by simp; omega)) (Kr.cell_of hk c4 (by simp; omega)) (by omega) (by omega) hst HOp) (chainM_st hst))
  have HO3 := Lib.hid o3'
  have K0 := Lib.hid k0
  have HSz := Lib.hid hsz
  have hE : chainM e 4 (chainM e 5 oper) s = exprOf e oper s := rfl
  rw [hE] at HC
  clear h HOp o1 o2 o3 o4 o1' o2' o3' o4' c1 c2 c4 k0 hst hb hsz hE
  have hmf := hmf_any
  go_enter Tryz.func91, Tryz.ntmps91
  go_wp2_with fail
  refine HC.out.mono ?_
  rintro r w2 ⟨A, c, rfl, s2, r2, k2⟩
  have HO2 := Lib.hid (k2.own HO3.out (by simp; omega))
  have HG := Lib.hid (fun cs => GotE.lay (b := w.heap.size + 1 + 1) (c := c) K0.out (by omega) (by rw [HSz.out]; omega) hRw s2 r2 k2 cs)
  clear s2 r2 k2 HC
  generalize exprOf e oper s = q at *
  obtain ⟨x, sp⟩ := q
  simp only at HG ⊢
  go_wp2_with (refine wpList_store_row (o := ⟨none, .store 60 _ _, _, _, _, _⟩) rfl 60 _ _ rfl (w.heap.size + 1 + 1) #[.int .i64 x.op, .string x.t.v, .int .i64 x.t.k, .int .i64 x.t.n, .string x.t.s, .slice A x.kids.length c] rfl rfl 60 _ HO2.out infoTexp rfl (by simp [Value.oneCell']) ?_)
  refine bodyPost_ret (v := .agg #[.int .i64 x.op, .string x.t.v, .int .i64 x.t.k, .int .i64 x.t.n, .string x.t.s, .slice A x.kids.length c]) (results_cell_row (P := Tryz.prog) rfl _ _ (w.heap.size + 1 + 1) 60 _ (0, 0) _ rfl (HO2.out.setRow [.int .i64 x.op, .string x.t.v, .int .i64 x.t.k, .int .i64 x.t.n, .string x.t.s, .slice A x.kids.length c]) Tryz.underlying60 rfl infoTexp) rfl ?_
  exact HG.out _
end Go.Proofs.YtolnikpihedmbaaGreatDoor

set_option linter.unusedVariables false
set_option linter.unusedSimpArgs false
namespace Go.Proofs.YtolnikpihedmbaaGreatDoor
open Go.RowKit Go.Deep Go.Shelf

set_option maxRecDepth 100000 in
set_option maxHeartbeats 400000 in
/-- an operand that is a term. -/
theorem operand_leaf (R e n : Nat) (s : PS) (w : World) (h : Rdr R e w s) (hb : isT e s cLp = false) :
    Calls Tryz.prog 102 #[.pointer (some ⟨R, 0, none⟩), .int .i64 (n : Int)] w (GotE R e w (leafE (termM e s).1, (termM e s).2)) := by
  have o0 : Own (w.alloc (.cells #[.int .i64 0, .string noText, .int .i64 0, .int .i64 0, .string noText, .slice none 0 0] 60)) w.heap.size 60 [.int .i64 0, .string noText, .int .i64 0, .int .i64 0, .string noText, .slice none 0 0] := heap_alloc_new _ _
  have hRw := h.lt
  have HO0 := Lib.hid o0
  have K0 : Hid (Kr R w (w.alloc (.cells #[.int .i64 0, .string noText, .int .i64 0, .int .i64 0, .string noText, .slice none 0 0] 60))) := (Kept.refl [R] w).alloc _
  have h0 := h.below ((Below.refl w.heap.size w).alloc (o := .cells #[.int .i64 0, .string noText, .int .i64 0, .int .i64 0, .string noText, .slice none 0 0] 60) (Nat.le_refl _))
  have HI := Lib.hid (is_any R e cLp s _ h0)
  have H0 := Lib.hid h0
  have hlp : bts cLp = ⟨#[40]⟩ := rfl
  rw [hlp] at HI
  clear h o0 h0
  rw [hb] at HI
  clear hb
  go_enter Tryz.func102, Tryz.ntmps102
  go_wp2_with fail
  refine HI.out.mono ?_
  rintro r w1 ⟨rfl, b1⟩
  have HO1 := Lib.hid (HO0.out.below b1)
  have H1 := Lib.hid (H0.out.below b1)
  have K1 := Lib.hid (K0.out.then b1)
  clear b1 HI
  go_wp2_with fail
  refine (term_any R e s w1 H1.out).mono ?_
  rintro r w2 ⟨rfl, ok, r2, k2⟩
  have HO2 := Lib.hid (k2.own HO1.out (by simp; omega))
  have H2 := Lib.hid r2
  have K2 := Lib.hid (Kr.tr K1.out k2)
  have HOk := Lib.hid ok
  clear r2 k2 ok
  generalize termM e s = q at *
  obtain ⟨t, sp⟩ := q
  simp only at HOk H2 ⊢
  unfold tmV
  go_wp2_with (refine wpList_store_row (o := ⟨none, .store 60 _ _, _, _, _, _⟩) rfl 60 _ _ rfl w.heap.size #[.int .i64 0, .string t.v, .int .i64 t.k, .int .i64 t.n, .string t.s, .slice none 0 0] rfl rfl 60 _ HO2.out infoTexp rfl (by simp [Value.oneCell']) ?_)
  refine bodyPost_ret (v := .agg #[.int .i64 0, .string t.v, .int .i64 t.k, .int .i64 t.n, .string t.s, .slice none 0 0]) (results_cell_row (P := Tryz.prog) rfl _ _ w.heap.size 60 _ (0, 0) _ rfl (HO2.out.setRow [.int .i64 0, .string t.v, .int .i64 t.k, .int .i64 t.n, .string t.s, .slice none 0 0]) Tryz.underlying60 rfl infoTexp) rfl ?_
  exact GotE.of (q := (leafE t, sp)) (A := none) (c := 0) (fun W _ _ => ⟨HOk.out, Rg.nil⟩) (H2.out.setRow hRw _) (K2.out.setRow (.inr (Nat.le_refl _)) _)
set_option maxRecDepth 100000 in
set_option maxHeartbeats 400000 in
/-- one parenthesis too many. -/
theorem operand_deep (R e : Nat) (s : PS) (w : World) (h : Rdr R e w s) (hb : isT e s cLp = true) :
    Calls Tryz.prog 102 #[.pointer (some ⟨R, 0, none⟩), .int .i64 20] w (GotE R e w (zE, rf e s 4)) := by
  have o0 : Own (w.alloc (.cells #[.int .i64 0, .string noText, .int .i64 0, .int .i64 0, .string noText, .slice none 0 0] 60)) w.heap.size 60 [.int .i64 0, .string noText, .int .i64 0, .int .i64 0, .string noText, .slice none 0 0] := heap_alloc_new _ _
  have hRw := h.lt
  have HO0 := Lib.hid o0
  have K0 : Hid (Kr R w (w.alloc (.cells #[.int .i64 0, .string noText, .int .i64 0, .int .i64 0, .string noText, .slice none 0 0] 60))) := (Kept.refl [R] w).alloc _
  have h0 := h.below ((Below.refl w.heap.size w).alloc (o := .cells #[.int .i64 0, .string noText, .int .i64 0, .int .i64 0, .string noText, .slice none 0 0] 60) (Nat.le_refl _))
  have HI := Lib.hid (is_any R e cLp s _ h0)
  have H0 := Lib.hid h0
  have hlp : bts cLp = ⟨#[40]⟩ := rfl
  rw [hlp] at HI
  clear h o0 h0
  rw [hb] at HI
  clear hb
  go_enter Tryz.func102, Tryz.ntmps102
  go_wp2_with fail
  refine HI.out.mono ?_
  rintro r w1 ⟨rfl, b1⟩
  have HO1 := Lib.hid (HO0.out.below b1)
  have H1 := Lib.hid (H0.out.below b1)
  have K1 := Lib.hid (K0.out.then b1)
  clear b1 HI
  go_wp2_with fail
  refine (refuse_any R e 4 s w1 H1.out).mono ?_
  rintro r w2 ⟨rfl, r2, k2⟩
  have HO2 := Lib.hid (k2.own HO1.out (by simp; omega))
  have H2 := Lib.hid r2
  have K2 := Lib.hid (Kr.tr K1.out k2)
  clear r2 k2
  go_wp2_with (refine wpList_store_row (o := ⟨none, .store 60 _ _, _, _, _, _⟩) rfl 60 _ _ rfl w.heap.size #[.int .i64 0, .string noText, .int .i64 0, .int .i64 0, .string noText, .slice none 0 0] rfl rfl 60 _ HO2.out infoTexp rfl (by simp [Value.oneCell']) ?_)
  refine bodyPost_ret (v := .agg #[.int .i64 0, .string noText, .int .i64 0, .int .i64 0, .string noText, .slice none 0 0]) (results_cell_row (P := Tryz.prog) rfl _ _ w.heap.size 60 _ (0, 0) _ rfl (HO2.out.setRow [.int .i64 0, .string noText, .int .i64 0, .int .i64 0, .string noText, .slice none 0 0]) Tryz.underlying60 rfl infoTexp) rfl ?_
  exact GotE.of (q := (zE, rf e s 4)) (A := none) (c := 0) (fun W _ _ => ⟨⟨no_ok, no_ok⟩, Rg.nil⟩) (H2.out.setRow hRw _) (K2.out.setRow (.inr (Nat.le_refl _)) _)
set_option maxRecDepth 100000 in
set_option maxHeartbeats 1000000 in
/-- an operand in parentheses. -/
theorem operand_in (R e n : Nat) (inner : PS → TEx × PS) (s : PS) (w : World) (h : Rdr R e w s) (hb : isT e s cLp = true) (hn : n ≤ 19)
    (HEx : ∀ s w, Rdr R e w s → Calls Tryz.prog 91 #[.pointer (some ⟨R, 0, none⟩), .int .i64 ((n : Int) + 1)] w (GotE R e w (inner s))) :
    Calls Tryz.prog 102 #[.pointer (some ⟨R, 0, none⟩), .int .i64 (n : Int)] w (GotE R e w ((inner (adv s)).1, needT e (inner (adv s)).2 cRp)) := by
  have o0 : Own (w.alloc (.cells #[.int .i64 0, .string noText, .int .i64 0, .int .i64 0, .string noText, .slice none 0 0] 60)) w.heap.size 60 [.int .i64 0, .string noText, .int .i64 0, .int .i64 0, .string noText, .slice none 0 0] := heap_alloc_new _ _
  have hRw := h.lt
  have HO0 := Lib.hid o0
  have K0 : Hid (Kr R w (w.alloc (.cells #[.int .i64 0, .string noText, .int .i64 0, .int .i64 0, .string noText, .slice none 0 0] 60))) := (Kept.refl [R] w).alloc _
  have h0 := h.below ((Below.refl w.heap.size w).alloc (o := .cells #[.int .i64 0, .string noText, .int .i64 0, .int .i64 0, .string noText, .slice none 0 0] 60) (Nat.le_refl _))
  have HI := Lib.hid (is_any R e cLp s _ h0)
  have H0 := Lib.hid h0
  have hlp : bts cLp = ⟨#[40]⟩ := rfl
  rw [hlp] at HI
  clear h o0 h0
  have HX := Lib.hid HEx
  have HN1 := Lib.hid (fun w (h : Rdr R e w s) => need_any R e cLp (by decide) s w h)
  have HN2 := Lib.hid (fun w s (h : Rdr R e w s) => need_any R e cRp (by decide) s w h)
  have hrp : bts cRp = ⟨#[41]⟩ := rfl
  have hE : needT e s cLp = adv s := by unfold needT; rw [if_pos hb]
  rw [hlp, hE] at HN1
  rw [hrp] at HN2
  rw [hb] at HI
  have hni : ¬ ((n : Int) = 20) := by omega
  have hnw : IntKind.i64.wrap ((n : Int) + 1) = (n : Int) + 1 := IntWalk.i64_in _ (by omega)
  clear hb hE HEx hlp hrp
  generalize (n : Int) = ni at *
  clear hn
  go_enter Tryz.func102, Tryz.ntmps102
  go_wp2_with fail
  refine HI.out.mono ?_
  rintro r w1 ⟨rfl, b1⟩
  have HO1 := Lib.hid (HO0.out.below b1)
  have H1 := Lib.hid (H0.out.below b1)
  have K1 := Lib.hid (K0.out.then b1)
  clear b1 HI
  go_wp2_with fail
  refine (HN1.out w1 H1.out).mono ?_
  rintro r w2 ⟨rfl, r2, k2⟩
  have HO2 := Lib.hid (k2.own HO1.out (by simp; omega))
  have H2 := Lib.hid r2
  have K2 := Lib.hid (Kr.tr K1.out k2)
  clear r2 k2 HN1
  go_wp2_with fail
  refine (HX.out _ w2 H2.out).mono ?_
  rintro r w3 ⟨A, c, rfl, s3, r3, k3⟩
  generalize inner (adv s) = q at *
  obtain ⟨x, sp⟩ := q
  simp only at s3 r3 ⊢
  have hq2 : w.heap.size < w2.heap.size := HO2.out.lt
  have hq3 := k3.size
  have HO3 := Lib.hid ((k3.own HO2.out (by simp; omega)).alloc (.cells #[.int .i64 x.op, .string x.t.v, .int .i64 x.t.k, .int .i64 x.t.n, .string x.t.s, .slice A x.kids.length c] 60))
  have HX3 : Hid (Own (w3.alloc (.cells #[.int .i64 x.op, .string x.t.v, .int .i64 x.t.k, .int .i64 x.t.n, .string x.t.s, .slice A x.kids.length c] 60)) w3.heap.size 60 [.int .i64 x.op, .string x.t.v, .int .i64 x.t.k, .int .i64 x.t.n, .string x.t.s, .slice A x.kids.length c]) := heap_alloc_new _ _
  have HS3 := Lib.hid s3
  have H3 := Lib.hid (r3.below ((Below.refl w3.heap.size w3).alloc (o := .cells #[.int .i64 x.op, .string x.t.v, .int .i64 x.t.k, .int .i64 x.t.n, .string x.t.s, .slice A x.kids.length c] 60) (Nat.le_refl _)))
  have K3 := Lib.hid (Kept.alloc (Kr.tr K2.out k3) (.cells #[.int .i64 x.op, .string x.t.v, .int .i64 x.t.k, .int .i64 x.t.n, .string x.t.s, .slice A x.kids.length c] 60))
  have hR3 := r3.lt
  clear s3 r3 k3 HX
  go_wp2_with fail
  refine (HN2.out _ sp H3.out).mono ?_
  rintro r w4 ⟨rfl, r4, k4⟩
  have HO4 := Lib.hid (k4.own HO3.out (by simp; omega))
  have HX4 := Lib.hid (k4.own HX3.out (by simp; omega))
  have HS4 : Hid (Stab (w4.setRow w.heap.size #[.int .i64 x.op, .string x.t.v, .int .i64 x.t.k, .int .i64 x.t.n, .string x.t.s, .slice A x.kids.length c]) (fun k => w.heap.size ≤ k) (fun W => ExV W x A)) := HS3.out.keep (by have := k4.size; simp at this ⊢; omega) (fun k hk hp => (setRow_other w4 _ k _ (by omega)).trans ((k4.block k (by simp; omega) (by simp; omega)).trans (allocOld w3 _ k hk))) (fun k hk hp => by omega)
  have H4 := Lib.hid (r4.setRow hRw #[.int .i64 x.op, .string x.t.v, .int .i64 x.t.k, .int .i64 x.t.n, .string x.t.s, .slice A x.kids.length c])
  have K4 := Lib.hid (Kept.setRow (Kr.tr K3.out k4) (b := w.heap.size) (.inr (Nat.le_refl _)) #[.int .i64 x.op, .string x.t.v, .int .i64 x.t.k, .int .i64 x.t.n, .string x.t.s, .slice A x.kids.length c])
  clear r4 k4 HN2 HS3
  go_wp2_with (first
    | (refine wpList_load_row (o := ⟨some 25, _, _, _, _, _⟩) rfl 60 _ rfl w3.heap.size rfl 60 #[.int .i64 x.op, .string x.t.v, .int .i64 x.t.k, .int .i64 x.t.n, .string x.t.s, .slice A x.kids.length c] (0, 0) _ HX4.out Tryz.underlying60 rfl infoTexp ?_)
    | (refine wpList_store_row (o := ⟨none, .store 60 _ _, _, _, _, _⟩) rfl 60 _ _ rfl w.heap.size #[.int .i64 x.op, .string x.t.v, .int .i64 x.t.k, .int .i64 x.t.n, .string x.t.s, .slice A x.kids.length c] rfl rfl 60 _ HO4.out infoTexp rfl (by simp [Value.oneCell']) ?_)
    | fail)
  refine bodyPost_ret (v := .agg #[.int .i64 x.op, .string x.t.v, .int .i64 x.t.k, .int .i64 x.t.n, .string x.t.s, .slice A x.kids.length c]) (results_cell_row (P := Tryz.prog) rfl _ _ w.heap.size 60 _ (0, 0) _ rfl (HO4.out.setRow [.int .i64 x.op, .string x.t.v, .int .i64 x.t.k, .int .i64 x.t.n, .string x.t.s, .slice A x.kids.length c]) Tryz.underlying60 rfl infoTexp) rfl ?_
  exact GotE.of (q := (x, needT e sp cRp)) HS4.out H4.out K4.out
theorem operand_any (R e : Nat) (d : Nat) : ∀ (n : Nat), n + d = 20 → ∀ (s : PS) (w : World), Rdr R e w s →
    Calls Tryz.prog 102 #[.pointer (some ⟨R, 0, none⟩), .int .i64 (n : Int)] w (GotE R e w (operM e d s)) := by
  induction d with
  | zero =>
    intro n hn s w h
    unfold operM
    cases hb : isT e s cLp with
    | false =>
      rw [if_neg (by decide)]
      exact operand_leaf R e n s w h hb
    | true =>
      rw [if_pos rfl]
      have : (n : Int) = 20 := by omega
      rw [this]
      exact operand_deep R e s w h hb
  | succ d ih =>
    intro n hn s w h
    unfold operM
    cases hb : isT e s cLp with
    | false =>
      rw [if_neg (by decide)]
      exact operand_leaf R e n s w h hb
    | true =>
      rw [if_pos rfl]
      refine operand_in R e n (exprOf e (operM e d)) s w h hb (by omega) fun s' w' h' => ?_
      have e1 : ((n + 1 : Nat) : Int) = (n : Int) + 1 := by omega
      have h2 := expression_of R e (n + 1) (operM e d) s' w' h' (operM_st d) (fun s2 w2 h3 => ih (n + 1) (by omega) s2 w2 h3)
      rw [e1] at h2
      exact h2
theorem expression_any (R e : Nat) (s : PS) (w : World) (h : Rdr R e w s) :
    Calls Tryz.prog 91 #[.pointer (some ⟨R, 0, none⟩), .int .i64 0] w (GotE R e w (exprM e 20 s)) :=
  expression_of R e 0 (operM e 20) s w h (operM_st 20) (fun s2 w2 h3 => operand_any R e 20 0 rfl s2 w2 h3)
end Go.Proofs.YtolnikpihedmbaaGreatDoor
