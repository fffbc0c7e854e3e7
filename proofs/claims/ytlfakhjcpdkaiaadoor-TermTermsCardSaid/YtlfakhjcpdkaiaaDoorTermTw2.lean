/- TermTerms: the loop's boxes; how far terms are asked for. Conditions: none. TermTerms: the walk. Conditions: texts of at most 2^47 bytes; lex's two tables and strconv's variables as they are laid. -/
import Derived.Test.YtlfakhjcpdkaiaaDoorTermEb
import Derived.Test.YtlfakhjcpdkaiaaDoorTermTb
import Derived.RegionIn
import Derived.Stop.RegionWithIn
import Derived.Shelf.RegionOpen
import Derived.Test.YtlfakhjcpdkaiaaDoorTermC
set_option linter.unusedVariables false
set_option linter.unusedSimpArgs false
namespace Go.Proofs.YtlfakhjcpdkaiaaDoor
open Go.RowKit Go.Deep Go.Shelf

theorem stop10 (st : Int) : ∃ q : Nat, wrap64 (1 + wrap64 ((IntKind.u64.wrap st).tmod 10)) = (q : Int) ∧ 1 ≤ q ∧ q ≤ 10 := by
  have h0 : 0 ≤ IntKind.u64.wrap st := by
    rw [IntKind.wrap_u64]
    omega
  have h1 := Int.tmod_nonneg 10 h0
  have h2 := Int.tmod_lt_of_pos (IntKind.u64.wrap st) (b := 10) (by omega)
  generalize (IntKind.u64.wrap st).tmod 10 = m at h1 h2
  refine ⟨(m + 1).toNat, ?_, by omega, by omega⟩
  unfold wrap64
  omega
/-- the boxes and the document's list, between two rounds. -/
structure TtI (w : World) (b7 b8 : Nat) (st : Int) (T : Option Addr) (c : Nat) (L : List TTm) (k : Nat) (W : World) : Prop where
  o5 : Own W (w.heap.size + 1) 3 [.int .i64 st]
  o6 : Own W (w.heap.size + 2) 4 [.bool false]
  o7 : Own W b7 32 [.slice T L.length c]
  o8 : Own W b8 3 [.int .i64 k]
  row : Rg 4 TmC W T L
  low : Below w.heap.size w W
section
variable {w X Y : World} {b7 b8 c k B : Nat} {st : Int} {T : Option Addr} {L : List TTm}
theorem TtI.calm (h : TtI w b7 b8 st T c L k X) (hc : Calm B X Y) (hB : w.heap.size ≤ B) : TtI w b7 b8 st T c L k Y :=
  ⟨hc.own h.o5, hc.own h.o6, hc.own h.o7, hc.own h.o8, h.row.tm (Pers.calm hc), Below.calm h.low hc (Nat.le_refl _) hB⟩
theorem TtI.below (h : TtI w b7 b8 st T c L k X) (hb : Below X.heap.size X Y) : TtI w b7 b8 st T c L k Y := h.calm (B := w.heap.size) (Calm.of_below _ hb) (Nat.le_refl _)
/-- a store into a number's box leaves terms as they are. -/
theorem Rg.set_int {q : Nat} {x y : Int} (h : Rg 4 TmC X T L) (ho : Own X q 3 [.int .i64 x]) : Rg 4 TmC (X.setCell ⟨q, 0, none⟩ (.int .i64 y)) T L := by
  have kb : Kept [q] X (X.setCell ⟨q, 0, none⟩ (.int .i64 y)) := (Kept.refl _ X).setCell (.inl (by simp)) _
  refine ⟨h.1, fun h0 => ?_⟩
  obtain ⟨b, o, e1, l1, c1⟩ := h.2 h0
  have hne : b ∉ [q] := fun hm => by
    simp only [List.mem_singleton] at hm
    subst hm
    have d1 := (c1 0 _ (List.getElem?_eq_getElem h0)).1
    rw [ho.cell] at d1
    have hj : o + 0 * 4 = 0 ∨ 1 ≤ o + 0 * 4 := by omega
    rcases hj with hj | hj
    · rw [hj] at d1; simp at d1
    · rw [List.getElem?_eq_none (by simpa using hj)] at d1; cases d1
  refine ⟨b, o, e1, Nat.lt_of_lt_of_le l1 kb.size, fun i x hx => ?_⟩
  obtain ⟨d0, d1, d2, d3, hk⟩ := c1 i x hx
  exact ⟨(kb.cell (p := ⟨b, _, none⟩) l1 hne).trans d0, (kb.cell (p := ⟨b, _, none⟩) l1 hne).trans d1, (kb.cell (p := ⟨b, _, none⟩) l1 hne).trans d2, (kb.cell (p := ⟨b, _, none⟩) l1 hne).trans d3, hk⟩
/-- the count goes up. -/
theorem TtI.bump (h : TtI w b7 b8 st T c L k X) (h5 : w.heap.size + 3 ≤ b7) (h7 : b7 + 1 ≤ b8) (B0 k' : Nat) :
    TtI w b7 b8 st T c L k' (X.setCell ⟨b8, 0, none⟩ (.int .i64 k')) ∧ KeepsFrom B0 X (X.setCell ⟨b8, 0, none⟩ (.int .i64 k')) ∧ Kf [] b8 0 X (X.setCell ⟨b8, 0, none⟩ (.int .i64 k')) := by
  have kb : Kept [b8] X (X.setCell ⟨b8, 0, none⟩ (.int .i64 k')) := (Kept.refl _ X).setCell (.inl (by simp)) _
  have hO := h.o8.set 0 (.int .i64 k')
  have hf0 : footL [] b8 0 X = [] ++ [b8] := foot_int [] (h.o8.cell 0)
  have hf5 := foot_int [] (hO.cell 0)
  refine ⟨⟨kb.own h.o5 (by simp only [List.mem_singleton]; omega), kb.own h.o6 (by simp only [List.mem_singleton]; omega), kb.own h.o7 (by simp only [List.mem_singleton]; omega), hO, h.row.set_int h.o8, h.low.trans (kb.below h.low.size fun k hk => by simp only [List.mem_singleton] at hk; omega)⟩, kb.keeps (fun k hk o ho => ?_) _, Kf.of_kept kb (fun k hk => by rw [hf0]; exact hk) (by rw [hf5, hf0]; exact Sub.refl _ _) (fun k hk => by
    rw [hf5] at hk
    simp only [List.nil_append, List.mem_singleton] at hk
    subst hk
    exact hO.lt)⟩
  simp only [List.mem_singleton] at hk
  subst hk
  have h8 := h.o8
  unfold Own at h8
  rw [h8] at ho
  cases ho
  rfl
end
/-- which term comes next. -/
theorem next_tm {L pre : List TTm} {x : TTm} (h : (pre ++ [x]) <+: L) : pre.length < L.length ∧ L[pre.length]? = some x := by
  obtain ⟨r, hr⟩ := h
  have h1 : L[pre.length]? = some x := by rw [← hr]; simp
  exact ⟨(List.getElem?_eq_some_iff.1 h1).1, h1⟩
end Go.Proofs.YtlfakhjcpdkaiaaDoor

set_option linter.unusedVariables false
set_option linter.unusedSimpArgs false
namespace Go.Proofs.YtlfakhjcpdkaiaaDoor
open Go.RowKit Go.Deep Go.Shelf
attribute [local go_sem] Oper.semAt_some

theorem region_cut {C : (Exit → Act → World → Prop) → Prop} {Q : Exit → Act → World → Prop} (a2 : Act) (w2 : World) (tail : Q .normal a2 w2) (reg : ∀ Q', Q' .normal a2 w2 → C Q') : C Q := reg Q tail
theorem wpIn_val {F : Fence} {n : Nat} {P : Program} {o : Oper} {a : Act} {w w' : World} {K : Act → World → Prop} {Q : Exit → Act → World → Prop} {v : Value} (k : BinOp) (t : TypeId) (x y : Operand) (u : TypeId) (ho : o.op = .binOp k t x y u)
    (hr : (execOp a.eval o).run P w = .ok (.value v) w') (hk : K (a.put o.dst v) w') : o.wpIn F n P a w K Q := by
  refine ⟨fun f hf => ?_, ?_⟩
  · simp [Oper.about, ho] at hf
  · rw [Oper.semAt_eq _ _ _ (by simp [ho]), hr]
    exact hk
theorem tt_start {w w4 : World} {st : Int} {stp : Nat} {T : Option Addr} {c : Nat} {L : List TTm} (o5 : Own w4 (w.heap.size + 1) 3 [.int .i64 st]) (o6 : Own w4 (w.heap.size + 2) 4 [.bool false]) (hr : Rg 4 TmC w4 T L) (hb : Below w.heap.size w w4) :
    TtI w w4.heap.size (w4.heap.size + 1) (stp : Int) T c L 0 (((w4.setCell ⟨w.heap.size + 1, 0, none⟩ (.int .i64 (stp : Int))).alloc (.cells #[.slice T L.length c] 32)).alloc (.cells #[.int .i64 0] 3)) ∧
    (((w4.setCell ⟨w.heap.size + 1, 0, none⟩ (.int .i64 (stp : Int))).alloc (.cells #[.slice T L.length c] 32)).alloc (.cells #[.int .i64 0] 3)).heap.size = w4.heap.size + 2 := by
  have kb : Kept [w.heap.size + 1] w4 (w4.setCell ⟨w.heap.size + 1, 0, none⟩ (.int .i64 (stp : Int))) := (Kept.refl _ w4).setCell (.inl (by simp)) _
  have hsz : (w4.setCell ⟨w.heap.size + 1, 0, none⟩ (.int .i64 (stp : Int))).heap.size = w4.heap.size := by simp
  have h5 := o5.set 0 (.int .i64 (stp : Int))
  have h6 := kb.own o6 (by simp)
  have hr' := hr.set_int (y := (stp : Int)) o5
  have hlow : Below w.heap.size w (w4.setCell ⟨w.heap.size + 1, 0, none⟩ (.int .i64 (stp : Int))) := hb.setCell (p := ⟨w.heap.size + 1, 0, none⟩) (Nat.le_succ _) _
  generalize w4.setCell ⟨w.heap.size + 1, 0, none⟩ (.int .i64 (stp : Int)) = X at *
  have a7 : Own (X.alloc (.cells #[.slice T L.length c] 32)) X.heap.size 32 [.slice T L.length c] := heap_alloc_new _ _
  have a8 := heap_alloc_new (X.alloc (.cells #[.slice T L.length c] 32)) (.cells #[.int .i64 0] 3)
  simp only [World.size_alloc] at a8
  rw [hsz] at a7 a8
  have hbb : Below X.heap.size X ((X.alloc (.cells #[.slice T L.length c] 32)).alloc (.cells #[.int .i64 0] 3)) := ((Below.refl _ _).alloc (Nat.le_refl _) _).alloc (by simp) _
  exact ⟨⟨h5.below hbb, h6.below hbb, a7.alloc _, a8, hr'.tm (Pers.of hbb), hlow.trans (hbb.mono hlow.size)⟩, by simp [hsz]⟩
set_option maxRecDepth 100000 in
set_option maxHeartbeats 2000000 in
theorem tterms_walk (e : TEx) (A : Option Addr) (c : Nat) (s : ByteArray) (st : Int) (w : World) (hV : ExV w e A) (hs : s.size ≤ 140737488351232) (hL : Lays w) :
    Calls Tryd.prog 3 #[exV e A c, .string s, .int .i64 st] w fun r w' => r = .returned (.bool true) ∧ Below w.heap.size w w' := by
  refine (callsIn_wide (n := 9)).1 ?_
  have hf3 : Fence.wide.fn 3 := trivial
  have hf5 : Fence.wide.fn 5 := trivial
  have hf6 : Fence.wide.fn 6 := trivial
  have hf7 : Fence.wide.fn 7 := trivial
  have hf8 : Fence.wide.fn 8 := trivial
  have hf9 : Fence.wide.fn 9 := trivial
  have hf10 : Fence.wide.fn 10 := trivial
  have hf11 : Fence.wide.fn 11 := trivial
  have hfv : Fence.wide.fn 38 := trivial
  have hB0 : Below w.heap.size w (((w.alloc (.cells #[.int .i64 e.op, .string e.t.v, .int .i64 e.t.k, .int .i64 e.t.n, .string e.t.s, .slice A e.kids.length c] 29)).alloc (.cells #[.int .i64 st] 3)).alloc (.cells #[.bool false] 4)) := (((Below.refl w.heap.size w).alloc (Nat.le_refl _) _).alloc (by simp) _).alloc (by simp; omega) _
  have o3 : Own (w.alloc (.cells #[.int .i64 e.op, .string e.t.v, .int .i64 e.t.k, .int .i64 e.t.n, .string e.t.s, .slice A e.kids.length c] 29)) w.heap.size 29 [.int .i64 e.op, .string e.t.v, .int .i64 e.t.k, .int .i64 e.t.n, .string e.t.s, .slice A e.kids.length c] := heap_alloc_new _ _
  have o5 := heap_alloc_new (w.alloc (.cells #[.int .i64 e.op, .string e.t.v, .int .i64 e.t.k, .int .i64 e.t.n, .string e.t.s, .slice A e.kids.length c] 29)) (.cells #[.int .i64 st] 3)
  have o6 := heap_alloc_new ((w.alloc (.cells #[.int .i64 e.op, .string e.t.v, .int .i64 e.t.k, .int .i64 e.t.n, .string e.t.s, .slice A e.kids.length c] 29)).alloc (.cells #[.int .i64 st] 3)) (.cells #[.bool false] 4)
  simp only [World.size_alloc] at o5 o6
  have o5' : Own ((w.alloc (.cells #[.int .i64 e.op, .string e.t.v, .int .i64 e.t.k, .int .i64 e.t.n, .string e.t.s, .slice A e.kids.length c] 29)).alloc (.cells #[.int .i64 st] 3)) (w.heap.size + 1) 3 [.int .i64 st] := o5
  have hO3 : Own (((w.alloc (.cells #[.int .i64 e.op, .string e.t.v, .int .i64 e.t.k, .int .i64 e.t.n, .string e.t.s, .slice A e.kids.length c] 29)).alloc (.cells #[.int .i64 st] 3)).alloc (.cells #[.bool false] 4)) w.heap.size 29 [.int .i64 e.op, .string e.t.v, .int .i64 e.t.k, .int .i64 e.t.n, .string e.t.s, .slice A e.kids.length c] := (o3.alloc _).alloc _
  have hO5 : Own (((w.alloc (.cells #[.int .i64 e.op, .string e.t.v, .int .i64 e.t.k, .int .i64 e.t.n, .string e.t.s, .slice A e.kids.length c] 29)).alloc (.cells #[.int .i64 st] 3)).alloc (.cells #[.bool false] 4)) (w.heap.size + 1) 3 [.int .i64 st] := o5'.alloc _
  have hO6 : Own (((w.alloc (.cells #[.int .i64 e.op, .string e.t.v, .int .i64 e.t.k, .int .i64 e.t.n, .string e.t.s, .slice A e.kids.length c] 29)).alloc (.cells #[.int .i64 st] 3)).alloc (.cells #[.bool false] 4)) (w.heap.size + 2) 4 [.bool false] := o6
  clear o3 o5 o6 o5'
  obtain ⟨w0, hw0⟩ : ∃ w0, w0 = (((w.alloc (.cells #[.int .i64 e.op, .string e.t.v, .int .i64 e.t.k, .int .i64 e.t.n, .string e.t.s, .slice A e.kids.length c] 29)).alloc (.cells #[.int .i64 st] 3)).alloc (.cells #[.bool false] 4)) := ⟨_, rfl⟩
  rw [← hw0] at hB0 hO3 hO5 hO6
  have HAl := Lib.hid (alive_any w0 (hL.below hB0))
  have B0 := Lib.hid hB0
  have O3 := Lib.hid hO3
  have O5 := Lib.hid hO5
  have O6 := Lib.hid hO6
  have HW := Lib.hid hw0
  have HV := Lib.hid hV
  have HL := Lib.hid hL
  have hlen := hV.row.1
  clear hL hB0 hO3 hO5 hO6 hw0 hV
  unfold exV
  refine callsIn_of_wp_marks Tryd.func3 rfl hf3 ?_ rfl
  simp only [Tryd.ntmps3, List.size_toArray, List.length_cons, List.length_nil, Nat.reduceAdd, Nat.reduceSub, Array.replicate_succ, Array.replicate_zero, List.push_toArray, List.append_toArray, List.nil_append, List.cons_append]
  gi_wp2_with fail
  simp only [Nat.add_assoc, Nat.reduceAdd]
  rw [← HW.out]
  refine (callsIn_wide.2 HAl.out).mono ?_
  rintro r w1 ⟨rfl, b1⟩
  have B1 := Lib.hid (B0.out.trans (b1.mono B0.out.size))
  have O3 := Lib.hid (O3.out.below b1)
  have O5 := Lib.hid (O5.out.below b1)
  have O6 := Lib.hid (O6.out.below b1)
  clear b1 B0 HAl
  have e0 := O3.out.cell 0
  have e1 := O3.out.cell 1
  have e2 := O3.out.cell 2
  have e3 := O3.out.cell 3
  have e4 := O3.out.cell 4
  have e5 := O3.out.cell 5
  have eq := O3.out.lt
  simp only [List.getElem?_cons_zero, List.getElem?_cons_succ] at e0 e1 e2 e3 e4 e5
  gi_wp2_with fail
  clear e0 e1 e2 e3 e4 e5 eq
  refine (callsIn_wide.2 (exp_any (cntE e) e A c 500 w1 (Nat.le_refl _) (HV.out.below B1.out) (by omega) (by omega))).mono ?_
  rintro r w2 ⟨rfl, b2⟩
  have B2 := Lib.hid (B1.out.trans (b2.mono B1.out.size))
  have O3 := Lib.hid (O3.out.below b2)
  have O5 := Lib.hid (O5.out.below b2)
  have O6 := Lib.hid (O6.out.below b2)
  have HC : Hid (0 ≤ leftE e 500 → cntE e ≤ 500) := fun h => by have := leftE_cnt e 500 h; omega
  clear b2 B1
  generalize leftE e 500 = z at *
  have h60 := O6.out.cell 0
  have f60 := O6.out.frozen 0
  have q60 := O6.out.lt
  by_cases hz : z < 0
  · gi_wp2
    exact ⟨.bool true, (by simp [results, Tryd.results3, go_sem, (O6.out.set 0 (.bool true)).cell 0]), rfl, B2.out.setCell (p := ⟨w.heap.size + 2, 0, none⟩) (by simp) _⟩
  · have hcn := HC.out (by omega)
    by_cases hl : (500 : Int) < (s.size : Int)
    · gi_wp2
      exact ⟨.bool true, (by simp [results, Tryd.results3, go_sem, (O6.out.set 0 (.bool true)).cell 0]), rfl, B2.out.setCell (p := ⟨w.heap.size + 2, 0, none⟩) (by simp) _⟩
    · clear h60 f60 q60 HC
      have hss : s.size ≤ 500 := by omega
      have e0 := O3.out.cell 0
      have e1 := O3.out.cell 1
      have e2 := O3.out.cell 2
      have e3 := O3.out.cell 3
      have e4 := O3.out.cell 4
      have e5 := O3.out.cell 5
      have eq := O3.out.lt
      simp only [List.getElem?_cons_zero, List.getElem?_cons_succ] at e0 e1 e2 e3 e4 e5
      gi_wp2_with fail
      clear e0 e1 e2 e3 e4 e5 eq
      refine (callsIn_wide.2 (exp_copy (cntE e) e A c w2 (Nat.le_refl _) (by omega) (HV.out.below B2.out))).mono ?_
      rintro r w3 ⟨A2, c2, rfl, hE, b3⟩
      have B3 := Lib.hid (B2.out.trans (b3.mono B2.out.size))
      have O3 := Lib.hid (O3.out.below b3)
      have O5 := Lib.hid (O5.out.below b3)
      have O6 := Lib.hid (O6.out.below b3)
      have CR := Lib.hid (refTerms_any (cntE e) e A2 c2 w3 w3 [] none 0 (Nat.le_refl _) hE.exV (by simp; omega) (Below.refl _ _) (World.ownsRow_nil _ _ _ _) (fun _ => rfl))
      unfold exV at CR
      rw [List.nil_append] at CR
      clear b3 hE B2
      gi_wp2_with fail
      refine (callsIn_wide.2 CR.out).mono ?_
      rintro r w4 ⟨T, tc, rfl, ho, hn, b4, _⟩
      have HRow := Lib.hid (Rg.own ho (okE_terms e HV.out.okE) (Nat.le_trans (terms_len e) (by omega)))
      have B4 := Lib.hid (B3.out.trans (b4.mono B3.out.size))
      have O3 := Lib.hid (O3.out.below b4)
      have O5 := Lib.hid (O5.out.below b4)
      have O6 := Lib.hid (O6.out.below b4)
      obtain ⟨stp, hst, hs1, hs10⟩ := stop10 st
      have HST := Lib.hid hst
      have h50 := O5.out.cell 0
      have f50 := O5.out.frozen 0
      have q50 := O5.out.lt
      have e0 := O3.out.cell 0
      have e1 := O3.out.cell 1
      have e2 := O3.out.cell 2
      have e3 := O3.out.cell 3
      have e4 := O3.out.cell 4
      have e5 := O3.out.cell 5
      have eq := O3.out.lt
      simp only [List.getElem?_cons_zero, List.getElem?_cons_succ] at e0 e1 e2 e3 e4 e5
      clear ho hn b4 hst CR B3
      gi_wp2_with fail
      rw [HST.out]
      clear h50 f50 q50 e0 e1 e2 e3 e4 e5 eq
      have hsb : w.heap.size + 2 < w4.heap.size := O6.out.lt
      obtain ⟨b7, hb7⟩ : ∃ b, b = w4.heap.size := ⟨_, rfl⟩
      have hI7 : TtI w w4.heap.size (w4.heap.size + 1) (stp : Int) T tc (termsE e) 0 (((w4.setCell ⟨w.heap.size + 1, 0, none⟩ (.int .i64 (stp : Int))).alloc (.cells #[.slice T (termsE e).length tc] 32)).alloc (.cells #[.int .i64 0] 3)) ∧
          (((w4.setCell ⟨w.heap.size + 1, 0, none⟩ (.int .i64 (stp : Int))).alloc (.cells #[.slice T (termsE e).length tc] 32)).alloc (.cells #[.int .i64 0] 3)).heap.size = w4.heap.size + 2 := tt_start O5.out O6.out HRow.out B4.out
      obtain ⟨hI7, hs7⟩ := hI7
      obtain ⟨w7, hw7⟩ : ∃ w7, w7 = (((w4.setCell ⟨w.heap.size + 1, 0, none⟩ (.int .i64 (stp : Int))).alloc (.cells #[.slice T (termsE e).length tc] 32)).alloc (.cells #[.int .i64 0] 3)) := ⟨_, rfl⟩
      rw [← hw7] at hI7 hs7 ⊢
      rw [← hb7] at hI7 hs7 hsb ⊢
      have HT7 := Lib.hid (Terms_any e A c w7 (HV.out.below hI7.low) (by omega))
      unfold exV at HT7
      refine (callsIn_wide.2 HT7.out).mono ?_
      rintro r w8 ⟨bs, T8, tc8, rfl, hbs, hbc, hr8, hab, b8⟩
      have hI8 := hI7.below b8
      have hlow8 : w.heap.size ≤ w8.heap.size := hI8.low.size
      have hs8 : b7 + 2 ≤ w8.heap.size := by have := b8.size; omega
      have HI8 := Lib.hid hI8
      have HBs := Lib.hid hbc
      have HR8 := Lib.hid hr8
      have HAb : Hid (∀ a, T8 = some a → b7 + 2 ≤ a.block) := fun a ha => by have := hab a ha; omega
      have hbs2 : b7 + 2 ≤ bs := by omega
      have HVa : Hid (∀ W, Below w.heap.size w W → Calls Tryd.prog 10 #[.string s] W fun r w' => r = .returned (.bool (soleB 3 s)) ∧ Below W.heap.size W w') := fun W hb => Variable_is s _ W rfl hs (HL.out.below hb)
      have HVr : Hid (∀ W, Calls Tryd.prog 11 #[.string s] W fun r w' => r = .returned (.bool (soleB 3 s)) ∧ Below W.heap.size W w') := fun W => refVariable_is s _ W rfl (by omega)
      generalize soleB 3 s = vb at HVa HVr
      clear hb7 hw7 hI7 hs7 hI8 hbc hr8 hab b8 O3 O5 O6 B4 HRow hbs HT7
      have hLn := terms_len e
      generalize termsE e = L at *
      gi_wp2_with fail
      refine' range_law2 (Kp := Kf [] (b7 + 1) 0) (Px := fun pre x _ => (pre ++ [x]) <+: L) (S := fun xs => xs = L) (Sp := fun pre => pre <+: L) (encs := fun x : TTm => #[tmV x]) rfl (by omega) (gf := 38) (lb := #[.pointer (some ⟨bs, 0, none⟩)]) rfl hfv (enters_of Tryd.func38 (by kernel_rfl) rfl)
        ?seq (fun h h' => h.trans h') (fun X Y hX hc => Kf.of_calm hc (by omega) (by omega)) (fun _ => rfl)
        (fun pre W => pre.length < stp ∧ TtI w b7 (b7 + 1) (stp : Int) T tc L pre.length W) (fun cd pre W => cd = Code.exit 0 ∧ pre.length ≤ stp ∧ (pre.length = stp ∨ pre = L) ∧ TtI w b7 (b7 + 1) (stp : Int) T tc L pre.length W) (fun pre X Y h hc => ⟨h.1, h.2.calm hc hlow8⟩) (fun cd pre X Y h hc => ⟨h.1, h.2.1, h.2.2.1, h.2.2.2.calm hc hlow8⟩)
        (fun _ _ _ _ h _ => h) ⟨by simp only [List.length_nil]; omega, HI8.out⟩ (fun x a W => ∃ Bx, b7 + 1 < Bx ∧ Own W Bx 26 [.string x.v, .int .i64 x.k, .int .i64 x.n, .string x.s] ∧ a = { tmps := #[.agg #[.int .i64 e.op, .string e.t.v, .int .i64 e.t.k, .int .i64 e.t.n, .string e.t.s, .slice A e.kids.length c], .string s, .int .i64 st, .pointer (some ⟨w.heap.size, 0, none⟩), undef, .pointer (some ⟨w.heap.size + 1, 0, none⟩), .pointer (some ⟨w.heap.size + 2, 0, none⟩), .pointer (some ⟨b7, 0, none⟩), .pointer (some ⟨b7 + 1, 0, none⟩), .pointer (some ⟨Bx, 0, none⟩), .bool true, .bool false, .agg #[.int .i64 e.op, .string e.t.v, .int .i64 e.t.k, .int .i64 e.t.n, .string e.t.s, .slice A e.kids.length c], .int .i64 z, .bool (decide (z < 0)), .bool (decide (z < 0)), .string s, .int .i64 (s.size : Int), .bool (decide ((500 : Int) < (s.size : Int))), .bool (decide (z < 0) || decide ((500 : Int) < (s.size : Int))), .agg #[.int .i64 e.op, .string e.t.v, .int .i64 e.t.k, .int .i64 e.t.n, .string e.t.s, .slice A e.kids.length c], exV e A2 c2, .slice T L.length tc, .int .i64 st, .int .u64 (IntKind.u64.wrap st), .int .u64 ((IntKind.u64.wrap st).tmod 10), .int .i64 (wrap64 ((IntKind.u64.wrap st).tmod 10)), .int .i64 (stp : Int), .agg #[.int .i64 e.op, .string e.t.v, .int .i64 e.t.k, .int .i64 e.t.n, .string e.t.s, .slice A e.kids.length c], .func (.func 38) #[] #[.pointer (some ⟨bs, 0, none⟩)], tmV x, undef, undef, undef, undef, undef, undef, undef, undef, undef, undef, undef, undef, undef, undef, undef, undef, undef, undef, undef, undef, undef, undef, undef, undef, undef, undef, undef, undef, undef, undef], defers := [] }) (fun x a X Y h hc => ?ax) ?assign ?body ?done ?stop
      case assign =>
        intro l x W K hW hK
        gi_wp2
        have hbw := (Below.refl W.heap.size W).alloc (o := .cells #[.string x.v, .int .i64 x.k, .int .i64 x.n, .string x.s] 26) (Nat.le_refl _)
        have hOx : Own (W.alloc (.cells #[.string x.v, .int .i64 x.k, .int .i64 x.n, .string x.s] 26)) W.heap.size 26 [.string x.v, .int .i64 x.k, .int .i64 x.n, .string x.s] := heap_alloc_new _ _
        have hlw : b7 + 1 < W.heap.size := by omega
        obtain ⟨WX, hWX⟩ : ∃ WX, WX = W.alloc (.cells #[.string x.v, .int .i64 x.k, .int .i64 x.n, .string x.s] 26) := ⟨_, rfl⟩
        rw [← hWX] at hbw hOx ⊢
        generalize hBx : W.heap.size = Bx at hbw hOx hlw ⊢
        rw [← hBx] at hbw
        exact hK _ _ hbw ⟨Bx, hlw, hOx, rfl⟩
      case ax =>
        obtain ⟨Bx, h1, h2, h3⟩ := h
        exact ⟨Bx, h1, hc.own h2, h3⟩
      case seq =>
        intro l J Jx W hW hJ hJx hY h0
        have hIW := HI8.out.below hW
        have hf : footL [] (b7 + 1) 0 W = [] ++ [b7 + 1] := foot_int [] (hIW.o8.cell 0)
        exact vals_in 8 (by omega) l [] (b7 + 1) 0 bs L T8 tc8 J Jx W ((hW.cell (p := ⟨bs, 0, none⟩) (World.block_lt_of_cell? _ _ HBs.out)).trans HBs.out) (HR8.out.tm (Pers.of hW)) hIW.o8.lt (fun k hk => by
          rw [hf] at hk
          simp only [List.nil_append, List.mem_singleton] at hk
          subst hk
          exact ⟨hIW.o8.lt, by omega, fun a ha => by have := HAb.out a ha; omega⟩) hJ hJx hY h0
      case body =>
        rintro l pre x a W ⟨hlts, hI⟩ hpre ⟨Bx, hBx, hOx, rfl⟩
        obtain ⟨hk, hx⟩ := next_tm hpre
        have hlen : (pre ++ [x]).length = pre.length + 1 := by simp
        have g5 := hI.o5.cell 0
        have g7 := hI.o7.cell 0
        have g8 := hI.o8.cell 0
        have m5 := hI.o5.lt
        have m7 := hI.o7.lt
        have m8 := hI.o8.lt
        obtain ⟨b, o, rfl, hbw, k0, k1, k2, k3, _⟩ := hI.row.at_ hk
        have hgx : L[pre.length] = x := by
          rw [List.getElem?_eq_getElem hk] at hx
          exact Option.some.inj hx
        rw [hgx] at k0 k1 k2 k3
        have y0 : W.cell? ⟨Bx, 0, none⟩ = some (.string x.v) := hOx.cell 0
        have y1 : W.cell? ⟨Bx, 1, none⟩ = some (.int .i64 x.k) := hOx.cell 1
        have y2 : W.cell? ⟨Bx, 2, none⟩ = some (.int .i64 x.n) := hOx.cell 2
        have y3 : W.cell? ⟨Bx, 3, none⟩ = some (.string x.s) := hOx.cell 3
        have yq := hOx.lt
        have hge : decide ((L.length : Int) ≤ (pre.length : Int)) = false := by simp; omega
        have hki0 : (pre.length : Int) < (L.length : Int) := by omega
        have hk00 : (0 : Int) ≤ (pre.length : Int) := by omega
        have HI := Lib.hid hI
        have HLn := Lib.hid hlen
        have e2 : (((pre ++ [x]).length : Nat) : Int) = (pre.length : Int) + 1 := by omega
        have HE2 := Lib.hid e2
        clear hI hpre hx hgx hOx hlen e2
        have mixed : Tryd.prog.follows .mixedOrders = true := by kernel_rfl
        have hwr : wrap64 ((pre.length : Int) + 1) = (pre.length : Int) + 1 := by unfold wrap64; omega
        gi_wp2_with fail
        rename_i K1 hK1 K0 hK0
        refine region_cut (C := fun Q => (Code.region _ _ _).wpIn _ _ _ Q _ _) { tmps := #[.agg #[.int .i64 e.op, .string e.t.v, .int .i64 e.t.k, .int .i64 e.t.n, .string e.t.s, .slice A e.kids.length c], .string s, .int .i64 st, .pointer (some ⟨w.heap.size, 0, none⟩), undef, .pointer (some ⟨w.heap.size + 1, 0, none⟩), .pointer (some ⟨w.heap.size + 2, 0, none⟩), .pointer (some ⟨b7, 0, none⟩), .pointer (some ⟨b7 + 1, 0, none⟩), .pointer (some ⟨Bx, 0, none⟩), .bool true, .bool false, .agg #[.int .i64 e.op, .string e.t.v, .int .i64 e.t.k, .int .i64 e.t.n, .string e.t.s, .slice A e.kids.length c], .int .i64 z, .bool (decide (z < 0)), .bool (decide (z < 0)), .string s, .int .i64 (s.size : Int), .bool (decide ((500 : Int) < (s.size : Int))), .bool (decide (z < 0) || decide ((500 : Int) < (s.size : Int))), .agg #[.int .i64 e.op, .string e.t.v, .int .i64 e.t.k, .int .i64 e.t.n, .string e.t.s, .slice A e.kids.length c], exV e A2 c2, .slice (some ⟨b, o, none⟩) L.length tc, .int .i64 st, .int .u64 (IntKind.u64.wrap st), .int .u64 ((IntKind.u64.wrap st).tmod 10), .int .i64 (wrap64 ((IntKind.u64.wrap st).tmod 10)), .int .i64 (stp : Int), .agg #[.int .i64 e.op, .string e.t.v, .int .i64 e.t.k, .int .i64 e.t.n, .string e.t.s, .slice A e.kids.length c], .func (.func 38) #[] #[.pointer (some ⟨bs, 0, none⟩)], tmV x, .int .i64 (pre.length : Int), .slice (some ⟨b, o, none⟩) L.length tc, .int .i64 (L.length : Int), .bool (decide (L.length ≤ pre.length)), .bool (decide (L.length ≤ pre.length)), .agg #[.string x.v, .int .i64 x.k, .int .i64 x.n, .string x.s], .slice (some ⟨b, o, none⟩) L.length tc, .int .i64 (pre.length : Int), .pointer (some ⟨b, o + pre.length * 4, none⟩), .agg #[.string x.v, .int .i64 x.k, .int .i64 x.n, .string x.s], .bool false, .bool (decide (L.length ≤ pre.length)), undef, undef, undef, undef, undef, undef, undef, undef, undef, undef, undef, undef, undef, undef, undef, undef, undef, undef], defers := [] } W.drew ?tail ?reg
        case reg =>
          intro Q2 hQ2
          gi_region
          all_goals exact hQ2
        case tail =>
          dsimp only
          have hge2 : decide (L.length ≤ pre.length) = false := by simp; omega
          simp only [hge2]
          show K0 _ _
          refine hK0 _ _ ?_
          clear hK0 hge2
          have hI1 := HI.out.below (Below.refl W.heap.size W).drew
          have hKb := (Kept.of [] (Below.refl W.heap.size W).drew).keeps (fun _ h _ _ => by cases h) w8.heap.size
          have hKfb : Kf [] (b7 + 1) 0 W W.drew := Kf.of_below (Below.refl W.heap.size W).drew m8
          clear g5 g7 g8 m5 m7 m8 y0 y1 y2 y3 k0 k1 k2 k3 yq hki0 hk00
          have g5 := hI1.o5.cell 0
          have m5 := hI1.o5.lt
          have g8 := hI1.o8.cell 0
          have q8 := hI1.o8.lt
          have n8 := hI1.o8.frozen 0
          obtain ⟨hB, hKF, hKf⟩ := hI1.bump (by omega) (Nat.le_refl _) w8.heap.size (pre ++ [x]).length
          rw [HE2.out] at hB hKF hKf
          rw [World.setCell_drew] at hB hKF hKf
          have e8 := hB.o8.cell 0
          have e5 := hB.o5.cell 0
          have eq8 := hB.o8.lt
          have eq5 := hB.o5.lt
          simp only [List.getElem?_cons_zero] at e8 e5
          have HB := Lib.hid hB
          have HKF := Lib.hid (hKb.trans hKF)
          have HKf := Lib.hid (hKfb.trans hKf)
          clear hI1 hKb hKfb hB hKF hKf
          have hv44 : Value.int .i64 (wrap64 ((pre.length : Int) + 1)) = .int .i64 ((pre.length : Int) + 1) := by rw [hwr]
          have HV44 := Lib.hid hv44
          clear hv44 hwr hge
          by_cases heq : pre.length + 1 = stp
          · have hq : ((pre.length : Int) + 1 == (stp : Int)) = true := by rw [beq_iff_eq, ← heq]; rfl
            have HEQ := Lib.hid heq
            clear heq
            gi_wp2_with (refine wpIn_val (o := ⟨some 44, _, _, _, _, _⟩) (v := .int .i64 ((pre.length : Int) + 1)) .add 3 _ _ 3 rfl (by rw [← HV44.out]; kernel_rfl) ?_)
            exact ⟨HKF.out, rfl, by rw [HLn.out]; omega, .inl (by rw [HLn.out]; exact HEQ.out), HB.out⟩
          · have hq : ((pre.length : Int) + 1 == (stp : Int)) = false := by rw [beq_eq_false_iff_ne]; exact fun h => heq (Int.ofNat.inj h)
            have HEQ := Lib.hid heq
            clear heq
            gi_wp2_with (refine wpIn_val (o := ⟨some 44, _, _, _, _, _⟩) (v := .int .i64 ((pre.length : Int) + 1)) .add 3 _ _ 3 rfl (by rw [← HV44.out]; kernel_rfl) ?_)
            exact ⟨HKF.out, HKf.out, by rw [HLn.out]; have := HEQ.out; omega, HB.out⟩
      case done =>
        rintro D ys W hD hys ⟨hlts, hI⟩ hK
        rw [hys] at hlts hI
        clear hys
        have hmn : min (stp : Int) (L.length : Int) = (L.length : Int) := by omega
        have g5 := hI.o5.cell 0
        have g7 := hI.o7.cell 0
        have g8 := hI.o8.cell 0
        have m5 := hI.o5.lt
        have m7 := hI.o7.lt
        have m8 := hI.o8.lt
        have HII := Lib.hid hI
        have HKD := Lib.hid hK
        have HD := Lib.hid hD
        clear hI hK hD hlts
        gi_wp2_with fail
        refine (callsIn_wide.2 (HVa.out W HII.out.low)).mono ?_
        rintro r u1 ⟨rfl, b1⟩
        have HII1 := Lib.hid (HII.out.below b1)
        have HKD1 : Hid (u1.heap[D]? = some (.deferred (some []))) := (b1.block D (Array.getElem?_eq_some_iff.1 HKD.out).1).trans HKD.out
        clear b1 g5 g7 g8 m5 m7 m8
        gi_wp2_with fail
        refine (callsIn_wide.2 (HVr.out u1)).mono ?_
        rintro r u2 ⟨rfl, b2⟩
        have HII2 := Lib.hid (HII1.out.below b2)
        have HKD2 : Hid (u2.heap[D]? = some (.deferred (some []))) := (b2.block D (Array.getElem?_eq_some_iff.1 HKD1.out).1).trans HKD1.out
        clear b2
        have g6 := HII2.out.o6.cell 0
        have m6 := HII2.out.o6.lt
        have n6 := HII2.out.o6.frozen 0
        gi_wp2_with fail
        have hK2 : (u2.setCell ⟨w.heap.size + 2, 0, none⟩ (.bool true)).heap[D]? = some (.deferred (some [])) := (KeepsOthers.setCell _ _ _).same D _ HKD2.out rfl
        have hO6 := HII2.out.o6.set 0 (.bool true)
        have hcm : Calm w8.heap.size (u2.setCell ⟨w.heap.size + 2, 0, none⟩ (.bool true)) ((u2.setCell ⟨w.heap.size + 2, 0, none⟩ (.bool true)).putObj D (.deferred none)) := Calm.put _ hK2 rfl HD.out
        refine ⟨by simp, .inl ⟨_, _, rfl, run_takeDeferred hK2, ?_⟩⟩
        exact ⟨.bool true, (by simp [results, Tryd.results3, go_sem, (hcm.own hO6).cell 0]), rfl, Below.calm (HII2.out.low.setCell (p := ⟨w.heap.size + 2, 0, none⟩) (by simp) _) hcm (Nat.le_refl _) hlow8⟩
      case stop =>
        rintro D cd pre W hD hpre ⟨rfl, hle, hor, hI⟩ hK
        have hln := hpre.length_le
        have hmn : min (stp : Int) (L.length : Int) = (pre.length : Int) := by
          rcases hor with h | h
          · omega
          · rw [h] at hle ⊢
            omega
        have g5 := hI.o5.cell 0
        have g7 := hI.o7.cell 0
        have g8 := hI.o8.cell 0
        have m5 := hI.o5.lt
        have m7 := hI.o7.lt
        have m8 := hI.o8.lt
        have HII := Lib.hid hI
        have HKD := Lib.hid hK
        have HD := Lib.hid hD
        clear hI hK hD hpre hle hor hln
        gi_wp2_with fail
        gi_wp2_with fail
        refine (callsIn_wide.2 (HVa.out W HII.out.low)).mono ?_
        rintro r u1 ⟨rfl, b1⟩
        have HII1 := Lib.hid (HII.out.below b1)
        have HKD1 : Hid (u1.heap[D]? = some (.deferred (some []))) := (b1.block D (Array.getElem?_eq_some_iff.1 HKD.out).1).trans HKD.out
        clear b1 g5 g7 g8 m5 m7 m8
        gi_wp2_with fail
        refine (callsIn_wide.2 (HVr.out u1)).mono ?_
        rintro r u2 ⟨rfl, b2⟩
        have HII2 := Lib.hid (HII1.out.below b2)
        have HKD2 : Hid (u2.heap[D]? = some (.deferred (some []))) := (b2.block D (Array.getElem?_eq_some_iff.1 HKD1.out).1).trans HKD1.out
        clear b2
        have g6 := HII2.out.o6.cell 0
        have m6 := HII2.out.o6.lt
        have n6 := HII2.out.o6.frozen 0
        gi_wp2_with fail
        have hK2 : (u2.setCell ⟨w.heap.size + 2, 0, none⟩ (.bool true)).heap[D]? = some (.deferred (some [])) := (KeepsOthers.setCell _ _ _).same D _ HKD2.out rfl
        have hO6 := HII2.out.o6.set 0 (.bool true)
        have hcm : Calm w8.heap.size (u2.setCell ⟨w.heap.size + 2, 0, none⟩ (.bool true)) ((u2.setCell ⟨w.heap.size + 2, 0, none⟩ (.bool true)).putObj D (.deferred none)) := Calm.put _ hK2 rfl HD.out
        refine ⟨by simp, .inl ⟨_, _, rfl, run_takeDeferred hK2, ?_⟩⟩
        exact ⟨.bool true, (by simp [results, Tryd.results3, go_sem, (hcm.own hO6).cell 0]), rfl, Below.calm (HII2.out.low.setCell (p := ⟨w.heap.size + 2, 0, none⟩) (by simp) _) hcm (Nat.le_refl _) hlow8⟩
end Go.Proofs.YtlfakhjcpdkaiaaDoor
