/- The reader's comparisons and literals. Conditions: as ParE's. -/
import Derived.Test.YtolnikpihedmbaaGreatDoorPbM
import Derived.Test.YtolnikpihedmbaaGreatDoorPbTermI
import Derived.Laws.CopyRow
set_option linter.unusedVariables false
set_option linter.unusedSimpArgs false
namespace Go.Proofs.YtolnikpihedmbaaGreatDoor
open Go.RowKit Go.Deep Go.Shelf

section
variable {P : Program}
theorem run_storeVar_at (w : World) (g o : Nat) (ty : TypeId) (cs : List Value) (t : TypeId) (old : Array Value) (hg : w.heap[g]? = some (.cells old t (0, 0))) (hi : (P.info? ty).map (·.size) = some cs.length)
    (hl : o + cs.length ≤ old.size) (h1 : ∀ v ∈ cs, v.oneCell' = true) :
    (storeVar ty ⟨g, o, none⟩ (.agg cs.toArray)).run P w = .ok () (w.setRow g (old.toList.take o ++ cs ++ old.toList.drop (o + cs.length)).toArray) := by
  have := run_storeCells_at P g o t cs 0 old w hg (by simpa using hl) h1
  cases hq : P.info? ty with
  | none => simp [hq] at hi
  | some i =>
    have hs : i.size = cs.length := by simpa [hq] using hi
    simp only [Nat.add_zero] at this
    simp [storeVar, sizeOf, typeInfo, hq, hs, Value.cells, this]
theorem wpList_store_at {ops : Array Oper} {rest : List Oper} {o : Oper} {a : Act} {w : World} {Q : Exit → Act → World → Prop} (hgd : o.guard = none) (ty : TypeId) (x y : Operand) (ho : o.op = .store ty x y)
    (g p : Nat) (cs : List Value) (hx : a.eval x = .pointer (some ⟨g, p, none⟩)) (hy : a.eval y = .agg cs.toArray) (t : TypeId) (old new : List Value) (hg : Own w g t old) (hi : (P.info? ty).map (·.size) = some cs.length)
    (hl : p + cs.length ≤ old.length) (h1 : ∀ v ∈ cs, v.oneCell' = true) (hn : old.take p ++ cs ++ old.drop (p + cs.length) = new)
    (h : wpList P ops Q rest (a.put o.dst undef) (w.setRow g new.toArray)) : wpList P ops Q (o :: rest) a w :=
  wpList_plain hgd fun _ hK => by
    unfold Oper.wp execOp
    subst hn
    simp only [ho, hx, hy, Instr.storeAt, Instr.sureAddr, Sem.run_bind, Sem.run_pure, Result.andThen_ok, run_storeVar_at (P := P) w g p ty cs t old.toArray hg hi (by simpa using hl) h1]
    exact hK _ _ h
end
theorem infoTlit : (Tryz.prog.info? 62).map (·.size) = some 17 := by kernel_rfl
/-- what reading a literal leaves. -/
def GotLt (R e : Nat) (W : World) (q : TLt × PS) (r : Ending) (W' : World) : Prop :=
  ∃ A c L d F f, r = .returned (.agg (ltL q.1 A c L d F f).toArray) ∧ Stab W' (fun k => W.heap.size ≤ k) (fun W => LtV W q.1 A L F) ∧ Rdr R e W' q.2 ∧ Kr R W W'
theorem one_mem {cs : List Value} (h : cs.all (·.oneCell') = true) : ∀ v ∈ cs, v.oneCell' = true := fun v hv => List.all_eq_true.1 h v hv
/-- the comparison's first part: left, operation, right, in the box bl. -/
structure CmB (R e : Nat) (w : World) (bl b0 : Nat) (L : List Value) (s : PS) (W : World) : Prop where
  own : Own W bl 62 L
  res : Own W b0 62 [.int .i64 0, .string noText, .slice none 0 0, .int .i64 0, .int .i64 0, .string noText, .int .i64 0, .int .i64 0, .string noText, .slice none 0 0, .int .i64 0, .string noText, .int .i64 0, .int .i64 0, .string noText, .slice none 0 0, .int .i64 0]
  rdr : Rdr R e W s
  kr : Kr R w W
  lo : w.heap.size ≤ b0 ∧ w.heap.size ≤ bl ∧ bl ≠ b0 ∧ R < w.heap.size
section
variable {R e bl b0 : Nat} {w W W' : World} {L : List Value} {s s' : PS}
theorem CmB.kept (h : CmB R e w bl b0 L s W) (hk : Kr R W W') (hr : Rdr R e W' s') : CmB R e w bl b0 L s' W' := by
  have := h.lo
  exact ⟨hk.own h.own (by simp; omega), hk.own h.res (by simp; omega), hr, Kr.tr h.kr hk, h.lo⟩
theorem CmB.row (h : CmB R e w bl b0 L s W) (L' : List Value) : CmB R e w bl b0 L' s (W.setRow bl L'.toArray) := by
  have := h.lo
  exact ⟨h.own.setRow L', (setRow_other W bl b0 _ (by omega)).trans h.res, h.rdr.setRow (by omega) _, Kept.setRow h.kr (.inr (by omega)) _, h.lo⟩
theorem CmB.set (h : CmB R e w bl b0 L s W) (i : Nat) (v : Value) : CmB R e w bl b0 (L.set i v) s (W.setCell ⟨bl, i, none⟩ v) := by
  have hl := h.lo
  have hk : Kept [bl] W (W.setCell ⟨bl, i, none⟩ v) := (Kept.refl _ _).setCell (.inl (by simp)) _
  exact ⟨h.own.set i v, hk.own h.res (by simp; omega), h.rdr.low ((Below.refl _ _).setCell (p := ⟨bl, i, none⟩) (by show R + 1 ≤ bl; omega) _), Kept.setCell h.kr (p := ⟨bl, i, none⟩) (.inr (by show w.heap.size ≤ bl; omega)) _, h.lo⟩
end
theorem row_part {W : World} {b : Nat} {T : TypeId} {L : List Value} (h : Own W b T L) (p : Nat) (cs : List Value) (hp : (L.drop p).take cs.length = cs) : ∀ (j : Nat) v, cs[j]? = some v → W.cell? ⟨b, p + j, none⟩ = some v := fun j v hv => by
  have hj := (List.getElem?_eq_some_iff.1 hv).1
  rw [h.cell, ← hv]
  conv => rhs; rw [← hp]
  rw [List.getElem?_take, if_pos hj, List.getElem?_drop]
theorem st_row {W : World} {bl : Nat} {F : World → Prop} (h : Stab W (fun k => bl < k) F) (cs : Array Value) : Stab (W.setRow bl cs) (fun k => bl < k) F := h.keep (by simp) (fun k _ hp => setRow_other W bl k _ (by omega)) (fun _ _ h => h)
theorem st_set {W : World} {bl : Nat} {F : World → Prop} (h : Stab W (fun k => bl < k) F) (i : Nat) (v : Value) : Stab (W.setCell ⟨bl, i, none⟩ v) (fun k => bl < k) F := by
  have hk : Kept [bl] W (W.setCell ⟨bl, i, none⟩ v) := (Kept.refl _ _).setCell (.inl (by simp)) _
  exact h.keep hk.size (fun k hkw hp => hk.block k hkw (by simp; omega)) (fun _ _ h => h)
theorem st_kr {W W' : World} {bl R : Nat} {F : World → Prop} (h : Stab W (fun k => bl < k) F) (hk : Kr R W W') (hR : R < bl) : Stab W' (fun k => bl < k) F := h.keep hk.size (fun k hkw hp => hk.block k hkw (by simp; omega)) (fun _ _ h => h)
theorem CmB.got {R e bl b0 : Nat} {w W : World} {L : List Value} {st : PS} {x y : TEx} {A A2 : Option Addr} {c c2 : Nat} {op at_ : Int} (h : CmB R e w bl b0 L st W) (s1 : Stab W (fun k => bl < k) (fun W => ExV W x A)) (s2 : Stab W (fun k => bl < k) (fun W => ExV W y A2)) (hb : b0 < bl) {cs : Array Value} :
    GotLt R e w (⟨3, ⟨noText, []⟩, op, x, y, at_⟩, st) (.returned (.agg #[.int .i64 3, .string noText, .slice none 0 0, .int .i64 op, .int .i64 x.op, .string x.t.v, .int .i64 x.t.k, .int .i64 x.t.n, .string x.t.s, .slice A x.kids.length c, .int .i64 y.op, .string y.t.v, .int .i64 y.t.k, .int .i64 y.t.n, .string y.t.s, .slice A2 y.kids.length c2, .int .i64 at_])) (W.setRow b0 cs) := by
  have hl := h.lo
  refine ⟨none, 0, A, c, A2, c2, rfl, ?_, h.rdr.setRow (by omega) _, Kept.setRow h.kr (.inr hl.1) _⟩
  exact ((s1.and s2).imp (G := fun W => LtV W ⟨3, ⟨noText, []⟩, op, x, y, at_⟩ none A A2) (fun W h => ⟨⟨no_ok, Rg.nil⟩, h.1, h.2, by show (-9223372036854775808 : Int) ≤ 3; decide, by show (3 : Int) ≤ 9223372036854775807; decide⟩)).keep (by simp) (fun k hk hp => setRow_other W b0 k _ (by omega)) (fun k hk hp => by omega)
set_option maxRecDepth 100000 in
set_option maxHeartbeats 4000000 in
theorem comparison_any (R e : Nat) (s : PS) (w : World) (h : Rdr R e w s) :
    Calls Tryz.prog 82 #[.pointer (some ⟨R, 0, none⟩)] w (GotLt R e w (cmpM e s)) := by
  have hRw := h.lt
  have hb : Below w.heap.size w (w.alloc (.cells #[.int .i64 0, .string noText, .slice none 0 0, .int .i64 0, .int .i64 0, .string noText, .int .i64 0, .int .i64 0, .string noText, .slice none 0 0, .int .i64 0, .string noText, .int .i64 0, .int .i64 0, .string noText, .slice none 0 0, .int .i64 0] 62)) := (Below.refl _ _).alloc (Nat.le_refl _) _
  have o1 : Own (w.alloc (.cells #[.int .i64 0, .string noText, .slice none 0 0, .int .i64 0, .int .i64 0, .string noText, .int .i64 0, .int .i64 0, .string noText, .slice none 0 0, .int .i64 0, .string noText, .int .i64 0, .int .i64 0, .string noText, .slice none 0 0, .int .i64 0] 62)) w.heap.size 62 [.int .i64 0, .string noText, .slice none 0 0, .int .i64 0, .int .i64 0, .string noText, .int .i64 0, .int .i64 0, .string noText, .slice none 0 0, .int .i64 0, .string noText, .int .i64 0, .int .i64 0, .string noText, .slice none 0 0, .int .i64 0] := heap_alloc_new _ _
  have HNx := Lib.hid (next_any R e s _ (h.below hb))
  have HEx := Lib.hid (fun s w (h : Rdr R e w s) => expression_any R e s w h)
  have HOn := Lib.hid (fun s w (h : Rdr R e w s) => needOne_any R e 3 s w h)
  have HRe := Lib.hid (fun p s w (h : Rdr R e w s) => refuseAt_any R e 4 p s w h)
  have H0 := Lib.hid (h.below hb)
  have HO1 := Lib.hid o1
  have HB := Lib.hid hb
  have HF : Hid (cmpM e s = (⟨3, ⟨noText, []⟩, got1 e (exprM e 20 s).2 3, (exprM e 20 s).1, (exprM e 20 (need1 e (exprM e 20 s).2 3)).1, (nx e s).2.2⟩, if (rightE 20 (exprM e 20 s).1 && rightE 20 (exprM e 20 (need1 e (exprM e 20 s).2 3)).1) = true then (exprM e 20 (need1 e (exprM e 20 s).2 3)).2 else rfAt (exprM e 20 (need1 e (exprM e 20 s).2 3)).2 4 (nx e s).2.2)) := rfl
  generalize cmpM e s = fin at *
  have HEx0 := Lib.hid (HEx.out s)
  generalize exprM e 20 s = q1 at *
  obtain ⟨x, s1⟩ := q1
  simp only at HF HEx0
  have HOn1 := Lib.hid (HOn.out s1)
  generalize (got1 e s1 3 : Int) = op at *
  generalize need1 e s1 3 = s2 at *
  have HEx2 := Lib.hid (HEx.out s2)
  generalize exprM e 20 s2 = q2 at *
  obtain ⟨y, s3⟩ := q2
  simp only at HF HEx2
  have hfa := field_at (nx e s)
  generalize nx e s = tk at *
  obtain ⟨tq, tt, tp⟩ := tk
  simp only at HF hfa
  have HRe3 := Lib.hid (HRe.out tp s3)
  generalize (tp : Int) = at_ at *
  clear h hb o1 HEx HOn HRe
  go_enter Tryz.func82, Tryz.ntmps82
  go_wp2_with fail
  refine HNx.out.mono ?_
  rintro r w1 ⟨rfl, b1⟩
  have HO1' := Lib.hid (HO1.out.below b1)
  have H1 := Lib.hid (H0.out.below b1)
  have K1 := Lib.hid (Kr.tr (Kr.of (R := R) HB.out) (Kr.of b1))
  have hq1 : w.heap.size < w1.heap.size := HO1'.out.lt
  clear b1 HNx
  go_wp2_with (first
    | (refine wpList_store_new (o := ⟨none, .store 62 _ _, _, _, _, _⟩) rfl 62 _ _ rfl #[.int .i64 3, .string noText, .slice none 0 0, .int .i64 0, .int .i64 0, .string noText, .int .i64 0, .int .i64 0, .string noText, .slice none 0 0, .int .i64 0, .string noText, .int .i64 0, .int .i64 0, .string noText, .slice none 0 0, .int .i64 at_] rfl rfl 62 _ infoTlit rfl (by simp [Value.oneCell']) ?_)
    | fail)
  obtain ⟨bl, hble⟩ : ∃ b, b = w1.heap.size := ⟨_, rfl⟩
  obtain ⟨b0, hb0e⟩ : ∃ b, b = w.heap.size := ⟨_, rfl⟩
  have B1 : Hid (CmB R e w bl b0 [.int .i64 3, .string noText, .slice none 0 0, .int .i64 0, .int .i64 0, .string noText, .int .i64 0, .int .i64 0, .string noText, .slice none 0 0, .int .i64 0, .string noText, .int .i64 0, .int .i64 0, .string noText, .slice none 0 0, .int .i64 at_] s (w1.alloc (.cells #[.int .i64 3, .string noText, .slice none 0 0, .int .i64 0, .int .i64 0, .string noText, .int .i64 0, .int .i64 0, .string noText, .slice none 0 0, .int .i64 0, .string noText, .int .i64 0, .int .i64 0, .string noText, .slice none 0 0, .int .i64 at_] 62))) := by
    rw [hble, hb0e]
    exact ⟨heap_alloc_new _ _, HO1'.out.alloc _, H1.out.below ((Below.refl _ _).alloc (Nat.le_refl _) _), Kept.alloc K1.out _, by omega⟩
  have HBl := Lib.hid hble
  have HB0 := Lib.hid hb0e
  have hbl : R < bl ∧ b0 < bl := by omega
  have HSz : Hid ((w1.alloc (.cells #[.int .i64 3, .string noText, .slice none 0 0, .int .i64 0, .int .i64 0, .string noText, .int .i64 0, .int .i64 0, .string noText, .slice none 0 0, .int .i64 0, .string noText, .int .i64 0, .int .i64 0, .string noText, .slice none 0 0, .int .i64 at_] 62)).heap.size = bl + 1) := by show _ = _; simp; omega
  clear HO1' H1 K1 H0 HO1 HB hble hb0e hq1
  refine (HEx0.out _ B1.out.rdr).mono ?_
  rintro r w2 ⟨A, c, rfl, st2, r2, k2⟩
  have B2 := Lib.hid (B1.out.kept k2 r2)
  rw [HSz.out] at st2
  have S2 := Lib.hid (Stab.more (P' := fun k => bl < k) st2 (fun k _ hp => hp))
  clear r2 k2 st2 B1 HEx0 HSz
  rw [show (Value.pointer (some ⟨w1.heap.size, 0, none⟩)) = .pointer (some ⟨bl, 0, none⟩) by rw [HBl.out]]
  rw [show (Value.pointer (some ⟨w.heap.size, 0, none⟩)) = .pointer (some ⟨b0, 0, none⟩) by rw [HB0.out]]
  go_wp2_with (first
    | (refine wpList_store_at (o := ⟨none, .store 60 _ _, _, _, _, _⟩) rfl 60 _ _ rfl bl 4 [.int .i64 x.op, .string x.t.v, .int .i64 x.t.k, .int .i64 x.t.n, .string x.t.s, .slice A x.kids.length c] rfl rfl 62 [.int .i64 3, .string noText, .slice none 0 0, .int .i64 0, .int .i64 0, .string noText, .int .i64 0, .int .i64 0, .string noText, .slice none 0 0, .int .i64 0, .string noText, .int .i64 0, .int .i64 0, .string noText, .slice none 0 0, .int .i64 at_] [.int .i64 3, .string noText, .slice none 0 0, .int .i64 0, .int .i64 x.op, .string x.t.v, .int .i64 x.t.k, .int .i64 x.t.n, .string x.t.s, .slice A x.kids.length c, .int .i64 0, .string noText, .int .i64 0, .int .i64 0, .string noText, .slice none 0 0, .int .i64 at_] B2.out.own infoTexp (by simp) (one_mem (by simp [Value.oneCell'])) rfl ?_)
    | fail)
  have B3 := Lib.hid (B2.out.row [.int .i64 3, .string noText, .slice none 0 0, .int .i64 0, .int .i64 x.op, .string x.t.v, .int .i64 x.t.k, .int .i64 x.t.n, .string x.t.s, .slice A x.kids.length c, .int .i64 0, .string noText, .int .i64 0, .int .i64 0, .string noText, .slice none 0 0, .int .i64 at_])
  have S3 := Lib.hid (st_row S2.out #[.int .i64 3, .string noText, .slice none 0 0, .int .i64 0, .int .i64 x.op, .string x.t.v, .int .i64 x.t.k, .int .i64 x.t.n, .string x.t.s, .slice A x.kids.length c, .int .i64 0, .string noText, .int .i64 0, .int .i64 0, .string noText, .slice none 0 0, .int .i64 at_])
  clear B2 S2
  refine (HOn1.out _ B3.out.rdr).mono ?_
  rintro r w3 ⟨rfl, r3, k3⟩
  have B4 := Lib.hid (B3.out.kept k3 r3)
  have S4 := Lib.hid (st_kr S3.out k3 (by omega))
  have d3 := B4.out.own.cell 3
  have f3 := B4.out.own.frozen 3
  have q3 := B4.out.own.lt
  simp only [List.getElem?_cons_zero, List.getElem?_cons_succ] at d3
  clear r3 k3 B3 S3 HOn1
  go_wp2_with fail
  have B5 : Hid (CmB R e w bl b0 [.int .i64 3, .string noText, .slice none 0 0, .int .i64 op, .int .i64 x.op, .string x.t.v, .int .i64 x.t.k, .int .i64 x.t.n, .string x.t.s, .slice A x.kids.length c, .int .i64 0, .string noText, .int .i64 0, .int .i64 0, .string noText, .slice none 0 0, .int .i64 at_] s2 (w3.setCell ⟨bl, 3, none⟩ (.int .i64 op))) := B4.out.set 3 (.int .i64 op)
  have S5 := Lib.hid (st_set S4.out 3 (.int .i64 op))
  clear B4 S4 d3 f3 q3
  refine (HEx2.out _ B5.out.rdr).mono ?_
  rintro r w4 ⟨A2, c2, rfl, st4, r4, k4⟩
  have B6 := Lib.hid (B5.out.kept k4 r4)
  have S6 := Lib.hid (st_kr S5.out k4 (by omega))
  have T6 := Lib.hid (Stab.more (P' := fun k => bl < k) st4 (fun k _ hp => by have := B5.out.own.lt; omega))
  clear r4 k4 st4 B5 S5 HEx2
  go_wp2_with (first
    | (refine wpList_store_at (o := ⟨none, .store 60 _ _, _, _, _, _⟩) rfl 60 _ _ rfl bl 10 [.int .i64 y.op, .string y.t.v, .int .i64 y.t.k, .int .i64 y.t.n, .string y.t.s, .slice A2 y.kids.length c2] rfl rfl 62 [.int .i64 3, .string noText, .slice none 0 0, .int .i64 op, .int .i64 x.op, .string x.t.v, .int .i64 x.t.k, .int .i64 x.t.n, .string x.t.s, .slice A x.kids.length c, .int .i64 0, .string noText, .int .i64 0, .int .i64 0, .string noText, .slice none 0 0, .int .i64 at_] [.int .i64 3, .string noText, .slice none 0 0, .int .i64 op, .int .i64 x.op, .string x.t.v, .int .i64 x.t.k, .int .i64 x.t.n, .string x.t.s, .slice A x.kids.length c, .int .i64 y.op, .string y.t.v, .int .i64 y.t.k, .int .i64 y.t.n, .string y.t.s, .slice A2 y.kids.length c2, .int .i64 at_] B6.out.own infoTexp (by simp) (one_mem (by simp [Value.oneCell'])) rfl ?_)
    | (refine wpList_load_at (o := ⟨some 18, _, _, _, _, _⟩) rfl 60 _ rfl bl 4 rfl [.int .i64 x.op, .string x.t.v, .int .i64 x.t.k, .int .i64 x.t.n, .string x.t.s, .slice A x.kids.length c] (row_part (B6.out.row [.int .i64 3, .string noText, .slice none 0 0, .int .i64 op, .int .i64 x.op, .string x.t.v, .int .i64 x.t.k, .int .i64 x.t.n, .string x.t.s, .slice A x.kids.length c, .int .i64 y.op, .string y.t.v, .int .i64 y.t.k, .int .i64 y.t.n, .string y.t.s, .slice A2 y.kids.length c2, .int .i64 at_]).own 4 _ rfl) _ Tryz.underlying60 rfl infoTexp ?_)
    | fail)
  have B7 := Lib.hid (B6.out.row [.int .i64 3, .string noText, .slice none 0 0, .int .i64 op, .int .i64 x.op, .string x.t.v, .int .i64 x.t.k, .int .i64 x.t.n, .string x.t.s, .slice A x.kids.length c, .int .i64 y.op, .string y.t.v, .int .i64 y.t.k, .int .i64 y.t.n, .string y.t.s, .slice A2 y.kids.length c2, .int .i64 at_])
  have S7 := Lib.hid (st_row S6.out #[.int .i64 3, .string noText, .slice none 0 0, .int .i64 op, .int .i64 x.op, .string x.t.v, .int .i64 x.t.k, .int .i64 x.t.n, .string x.t.s, .slice A x.kids.length c, .int .i64 y.op, .string y.t.v, .int .i64 y.t.k, .int .i64 y.t.n, .string y.t.s, .slice A2 y.kids.length c2, .int .i64 at_])
  have T7 := Lib.hid (st_row T6.out #[.int .i64 3, .string noText, .slice none 0 0, .int .i64 op, .int .i64 x.op, .string x.t.v, .int .i64 x.t.k, .int .i64 x.t.n, .string x.t.s, .slice A x.kids.length c, .int .i64 y.op, .string y.t.v, .int .i64 y.t.k, .int .i64 y.t.n, .string y.t.s, .slice A2 y.kids.length c2, .int .i64 at_])
  clear B6 S6 T6
  generalize (w4.setRow bl #[.int .i64 3, .string noText, .slice none 0 0, .int .i64 op, .int .i64 x.op, .string x.t.v, .int .i64 x.t.k, .int .i64 x.t.n, .string x.t.s, .slice A x.kids.length c, .int .i64 y.op, .string y.t.v, .int .i64 y.t.k, .int .i64 y.t.n, .string y.t.s, .slice A2 y.kids.length c2, .int .i64 at_]) = w5 at *
  have HRx := Lib.hid (fun b hb => RightExp_is x A c b w5 hb S7.out.here B7.out.rdr.env.lays)
  have HRy := Lib.hid (fun b hb w6 (hb6 : Below w5.heap.size w5 w6) => RightExp_is y A2 c2 b w6 hb (T7.out.here.below hb6) (B7.out.rdr.below hb6).env.lays)
  have L7 := B7.out.lo
  cases hx : rightE 20 x with
  | false =>
    have hfin := HF.out
    rw [hx, Bool.false_and, if_neg (by decide)] at hfin
    have HFin := Lib.hid hfin
    have HRx1 := Lib.hid (HRx.out false hx)
    clear hfin HF HRx HRy hx
    refine HRx1.out.mono ?_
    rintro r w6 ⟨rfl, b6⟩
    have B8 := Lib.hid (B7.out.kept (Kr.of b6) (B7.out.rdr.below b6))
    have S8 := Lib.hid (S7.out.below b6)
    have T8 := Lib.hid (T7.out.below b6)
    clear b6 HRx1
    have d16 := B8.out.own.cell 16
    have q16 := B8.out.own.lt
    simp only [List.getElem?_cons_zero, List.getElem?_cons_succ] at d16
    go_wp2_with fail

    refine (HRe3.out w6 B8.out.rdr).mono ?_
    rintro r w9 ⟨rfl, r9, k9⟩
    have B9 := Lib.hid (B8.out.kept k9 r9)
    have S9 := Lib.hid (st_kr S8.out k9 (by omega))
    have T9 := Lib.hid (st_kr T8.out k9 (by omega))
    clear r9 k9 d16 q16
    have HOo := Lib.hid B9.out.own
    have HRs := Lib.hid B9.out.res
    go_wp2_with (first
      | (refine wpList_load_row (o := ⟨some 31, _, _, _, _, _⟩) rfl 62 _ rfl bl rfl 62 #[.int .i64 3, .string noText, .slice none 0 0, .int .i64 op, .int .i64 x.op, .string x.t.v, .int .i64 x.t.k, .int .i64 x.t.n, .string x.t.s, .slice A x.kids.length c, .int .i64 y.op, .string y.t.v, .int .i64 y.t.k, .int .i64 y.t.n, .string y.t.s, .slice A2 y.kids.length c2, .int .i64 at_] (0, 0) _ HOo.out Tryz.underlying62 rfl infoTlit ?_)
      | (refine wpList_store_row (o := ⟨none, .store 62 _ _, _, _, _, _⟩) rfl 62 _ _ rfl b0 #[.int .i64 3, .string noText, .slice none 0 0, .int .i64 op, .int .i64 x.op, .string x.t.v, .int .i64 x.t.k, .int .i64 x.t.n, .string x.t.s, .slice A x.kids.length c, .int .i64 y.op, .string y.t.v, .int .i64 y.t.k, .int .i64 y.t.n, .string y.t.s, .slice A2 y.kids.length c2, .int .i64 at_] rfl rfl 62 _ HRs.out infoTlit rfl (by simp [Value.oneCell']) ?_)
      | fail)
    refine bodyPost_ret (v := .agg #[.int .i64 3, .string noText, .slice none 0 0, .int .i64 op, .int .i64 x.op, .string x.t.v, .int .i64 x.t.k, .int .i64 x.t.n, .string x.t.s, .slice A x.kids.length c, .int .i64 y.op, .string y.t.v, .int .i64 y.t.k, .int .i64 y.t.n, .string y.t.s, .slice A2 y.kids.length c2, .int .i64 at_]) (results_cell_row (P := Tryz.prog) rfl _ _ b0 62 _ (0, 0) _ rfl (HRs.out.setRow [.int .i64 3, .string noText, .slice none 0 0, .int .i64 op, .int .i64 x.op, .string x.t.v, .int .i64 x.t.k, .int .i64 x.t.n, .string x.t.s, .slice A x.kids.length c, .int .i64 y.op, .string y.t.v, .int .i64 y.t.k, .int .i64 y.t.n, .string y.t.s, .slice A2 y.kids.length c2, .int .i64 at_]) Tryz.underlying62 rfl infoTlit) rfl ?_
    rw [HFin.out]
    exact CmB.got (st := rfAt s3 4 tp) B9.out S9.out T9.out hbl.2
  | true =>
    have HRx1 := Lib.hid (HRx.out true hx)
    cases hy : rightE 20 y with
    | false =>
      have hfin := HF.out
      rw [hx, hy, if_neg (by decide)] at hfin
      have HFin := Lib.hid hfin
      have HRy1 := Lib.hid (HRy.out false hy)
      clear hfin HF HRx HRy hx hy
      refine HRx1.out.mono ?_
      rintro r w6 ⟨rfl, b6⟩
      have HBb := Lib.hid (B7.out.kept (Kr.of b6) (B7.out.rdr.below b6))
      have HRy2 := Lib.hid (HRy1.out w6 b6)
      have e10 := HBb.out.own.cell 10
      have e11 := HBb.out.own.cell 11
      have e12 := HBb.out.own.cell 12
      have e13 := HBb.out.own.cell 13
      have e14 := HBb.out.own.cell 14
      have e15 := HBb.out.own.cell 15
      simp only [List.getElem?_cons_zero, List.getElem?_cons_succ] at e10 e11 e12 e13 e14 e15
      go_wp2_with fail
      clear e10 e11 e12 e13 e14 e15
      refine HRy2.out.mono ?_
      rintro r w7 ⟨rfl, b7⟩
      have b67 := b6.trans (b7.mono b6.size)
      have B8 := Lib.hid (B7.out.kept (Kr.of b67) (B7.out.rdr.below b67))
      have S8 := Lib.hid (S7.out.below b67)
      have T8 := Lib.hid (T7.out.below b67)
      clear b6 b7 b67 HBb HRy2 HRy1 HRx1
      have d16 := B8.out.own.cell 16
      have q16 := B8.out.own.lt
      simp only [List.getElem?_cons_zero, List.getElem?_cons_succ] at d16
      go_wp2_with fail

      refine (HRe3.out w7 B8.out.rdr).mono ?_
      rintro r w9 ⟨rfl, r9, k9⟩
      have B9 := Lib.hid (B8.out.kept k9 r9)
      have S9 := Lib.hid (st_kr S8.out k9 (by omega))
      have T9 := Lib.hid (st_kr T8.out k9 (by omega))
      clear r9 k9 d16 q16
      have HOo := Lib.hid B9.out.own
      have HRs := Lib.hid B9.out.res
      go_wp2_with (first
        | (refine wpList_load_row (o := ⟨some 31, _, _, _, _, _⟩) rfl 62 _ rfl bl rfl 62 #[.int .i64 3, .string noText, .slice none 0 0, .int .i64 op, .int .i64 x.op, .string x.t.v, .int .i64 x.t.k, .int .i64 x.t.n, .string x.t.s, .slice A x.kids.length c, .int .i64 y.op, .string y.t.v, .int .i64 y.t.k, .int .i64 y.t.n, .string y.t.s, .slice A2 y.kids.length c2, .int .i64 at_] (0, 0) _ HOo.out Tryz.underlying62 rfl infoTlit ?_)
        | (refine wpList_store_row (o := ⟨none, .store 62 _ _, _, _, _, _⟩) rfl 62 _ _ rfl b0 #[.int .i64 3, .string noText, .slice none 0 0, .int .i64 op, .int .i64 x.op, .string x.t.v, .int .i64 x.t.k, .int .i64 x.t.n, .string x.t.s, .slice A x.kids.length c, .int .i64 y.op, .string y.t.v, .int .i64 y.t.k, .int .i64 y.t.n, .string y.t.s, .slice A2 y.kids.length c2, .int .i64 at_] rfl rfl 62 _ HRs.out infoTlit rfl (by simp [Value.oneCell']) ?_)
        | fail)
      refine bodyPost_ret (v := .agg #[.int .i64 3, .string noText, .slice none 0 0, .int .i64 op, .int .i64 x.op, .string x.t.v, .int .i64 x.t.k, .int .i64 x.t.n, .string x.t.s, .slice A x.kids.length c, .int .i64 y.op, .string y.t.v, .int .i64 y.t.k, .int .i64 y.t.n, .string y.t.s, .slice A2 y.kids.length c2, .int .i64 at_]) (results_cell_row (P := Tryz.prog) rfl _ _ b0 62 _ (0, 0) _ rfl (HRs.out.setRow [.int .i64 3, .string noText, .slice none 0 0, .int .i64 op, .int .i64 x.op, .string x.t.v, .int .i64 x.t.k, .int .i64 x.t.n, .string x.t.s, .slice A x.kids.length c, .int .i64 y.op, .string y.t.v, .int .i64 y.t.k, .int .i64 y.t.n, .string y.t.s, .slice A2 y.kids.length c2, .int .i64 at_]) Tryz.underlying62 rfl infoTlit) rfl ?_
      rw [HFin.out]
      exact CmB.got (st := rfAt s3 4 tp) B9.out S9.out T9.out hbl.2
    | true =>
      have hfin := HF.out
      rw [hx, hy, if_pos (show (true && true) = true from rfl)] at hfin
      have HFin := Lib.hid hfin
      have HRy1 := Lib.hid (HRy.out true hy)
      clear hfin HF HRx HRy hx hy
      refine HRx1.out.mono ?_
      rintro r w6 ⟨rfl, b6⟩
      have HBb := Lib.hid (B7.out.kept (Kr.of b6) (B7.out.rdr.below b6))
      have HRy2 := Lib.hid (HRy1.out w6 b6)
      have e10 := HBb.out.own.cell 10
      have e11 := HBb.out.own.cell 11
      have e12 := HBb.out.own.cell 12
      have e13 := HBb.out.own.cell 13
      have e14 := HBb.out.own.cell 14
      have e15 := HBb.out.own.cell 15
      simp only [List.getElem?_cons_zero, List.getElem?_cons_succ] at e10 e11 e12 e13 e14 e15
      go_wp2_with fail
      clear e10 e11 e12 e13 e14 e15
      refine HRy2.out.mono ?_
      rintro r w7 ⟨rfl, b7⟩
      have b67 := b6.trans (b7.mono b6.size)
      have B8 := Lib.hid (B7.out.kept (Kr.of b67) (B7.out.rdr.below b67))
      have S8 := Lib.hid (S7.out.below b67)
      have T8 := Lib.hid (T7.out.below b67)
      clear b6 b7 b67 HBb HRy2 HRy1 HRx1
      have HOo := Lib.hid B8.out.own
      have HRs := Lib.hid B8.out.res
      go_wp2_with (first
        | (refine wpList_load_row (o := ⟨some 31, _, _, _, _, _⟩) rfl 62 _ rfl bl rfl 62 #[.int .i64 3, .string noText, .slice none 0 0, .int .i64 op, .int .i64 x.op, .string x.t.v, .int .i64 x.t.k, .int .i64 x.t.n, .string x.t.s, .slice A x.kids.length c, .int .i64 y.op, .string y.t.v, .int .i64 y.t.k, .int .i64 y.t.n, .string y.t.s, .slice A2 y.kids.length c2, .int .i64 at_] (0, 0) _ HOo.out Tryz.underlying62 rfl infoTlit ?_)
        | (refine wpList_store_row (o := ⟨none, .store 62 _ _, _, _, _, _⟩) rfl 62 _ _ rfl b0 #[.int .i64 3, .string noText, .slice none 0 0, .int .i64 op, .int .i64 x.op, .string x.t.v, .int .i64 x.t.k, .int .i64 x.t.n, .string x.t.s, .slice A x.kids.length c, .int .i64 y.op, .string y.t.v, .int .i64 y.t.k, .int .i64 y.t.n, .string y.t.s, .slice A2 y.kids.length c2, .int .i64 at_] rfl rfl 62 _ HRs.out infoTlit rfl (by simp [Value.oneCell']) ?_)
        | fail)
      refine bodyPost_ret (v := .agg #[.int .i64 3, .string noText, .slice none 0 0, .int .i64 op, .int .i64 x.op, .string x.t.v, .int .i64 x.t.k, .int .i64 x.t.n, .string x.t.s, .slice A x.kids.length c, .int .i64 y.op, .string y.t.v, .int .i64 y.t.k, .int .i64 y.t.n, .string y.t.s, .slice A2 y.kids.length c2, .int .i64 at_]) (results_cell_row (P := Tryz.prog) rfl _ _ b0 62 _ (0, 0) _ rfl (HRs.out.setRow [.int .i64 3, .string noText, .slice none 0 0, .int .i64 op, .int .i64 x.op, .string x.t.v, .int .i64 x.t.k, .int .i64 x.t.n, .string x.t.s, .slice A x.kids.length c, .int .i64 y.op, .string y.t.v, .int .i64 y.t.k, .int .i64 y.t.n, .string y.t.s, .slice A2 y.kids.length c2, .int .i64 at_]) Tryz.underlying62 rfl infoTlit) rfl ?_
      rw [HFin.out]
      exact CmB.got (st := s3) B8.out S8.out T8.out hbl.2
end Go.Proofs.YtolnikpihedmbaaGreatDoor
