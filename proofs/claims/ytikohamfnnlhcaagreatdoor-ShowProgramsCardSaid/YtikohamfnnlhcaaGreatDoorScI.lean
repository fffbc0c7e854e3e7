/- A region that draws its order: what is done, and what that leads back to; reads and calls next to one new row. Conditions: none. (*writer).program. Conditions: a well-formed program; the tables as laid. show.Program. Conditions: the tables as laid. -/
import Derived.Test.YtikohamfnnlhcaaGreatDoorPcShoR
import Derived.Test.YtikohamfnnlhcaaGreatDoorPcShoH
import Derived.Test.YtikohamfnnlhcaaGreatDoorScH
set_option linter.unusedVariables false
set_option linter.unusedSimpArgs false
namespace Go.Proofs.YtikohamfnnlhcaaGreatDoor
open Go.RowKit Go.Deep Go.Shelf

/-- what is done has all done that it waits for. -/
def Cl (ops : Array Oper) (d : Nat → Bool) : Prop := ∀ i o, ops[i]? = some o → d i = true → ∀ e ∈ o.after.toList, Region.binds .any e = true → d e.on = true
theorem wp_region_cl {P : Program} {ops : Array Oper} {Q : Exit → Act → World → Prop} {n : Nat} {J : Act → (Nat → Bool) → Act → World → Prop} {id : Nat} {a0 : Act} {w0 : World} (hm : P.follows .mixedOrders = true) (hsize : ops.size = n) (hac : ∀ (i : Nat) o, ops[i]? = some o → ∀ e ∈ o.after.toList, Region.binds .any e = true → e.on < i) (hg : ∀ (i : Nat) o, ops[i]? = some o → o.guard = none)
    (h0 : J a0 (fun _ => false) a0 w0.drew)
    (hstep : ∀ i o (d : Nat → Bool) a w, i < n → ops[i]? = some o → d i = false → (∀ e ∈ o.after.toList, Region.binds .any e = true → d e.on = true) → Cl ops d → J a0 d a w → ∀ K : Act → World → Prop, (∀ a' w', J a0 (fun k => if k = i then true else d k) a' w' → K a' w') → o.wp P a w K Q)
    (hend : ∀ (d : Nat → Bool) a w, (∀ k, k < n → d k = true) → J a0 d a w → Q .normal a w) : (Code.region id ops true).wp P Q a0 w0 := by
  refine wp_region_inv' (J := fun a0 d a w => J a0 d a w ∧ Cl ops d) hm hsize hac hg ⟨h0, fun i o _ h => by cases h⟩ (fun i o d a w hi ho hdi hdep hJ K hK => ?_) (fun d a w hall hJ => hend d a w hall hJ.1)
  refine hstep i o d a w hi ho hdi hdep hJ.2 hJ.1 K (fun a' w' h => hK a' w' ⟨h, fun k o' ho' hk e he hb => ?_⟩)
  by_cases hki : k = i
  · subst hki
    rw [ho] at ho'
    injection ho' with ho'
    subst ho'
    show (if e.on = k then true else d e.on) = true
    rw [hdep e he hb]
    split <;> rfl
  · have hk : d k = true := by simpa [hki] using hk
    show (if e.on = i then true else d e.on) = true
    rw [hJ.2 k o' ho' hk e he hb]
    split <;> rfl
/-- n operations that give values (one of them a new row in a block b), the last one of them laid into a slot that was read. -/
structure SJ (n ia sz : Nat) (D : Nat → Nat) (wr : World) (V : Nat → Nat → Value) (T : TypeId) (cs : List Value) (a0 : Act) (d : Nat → Bool) (a : Act) (b : Nat) (w : World) : Prop where
  tm : a.tmps.size = sz
  df : a.defers = a0.defers
  fr : ∀ t, (∀ k, k < n → d k = true → t ≠ D k) → a.tmps.getD t undef = a0.tmps.getD t undef
  low : Below wr.heap.size wr w
  got : ∀ k, k < n → d k = true → a.tmps.getD (D k) undef = V b k
  box : d ia = true → Own w b T cs
section
variable {n ia sz : Nat} {D : Nat → Nat} {wr : World} {V : Nat → Nat → Value} {T : TypeId} {cs : List Value} {a0 : Act} {d : Nat → Bool} {a : Act} {b : Nat} {w : World}
theorem SJ.start (hsz : a0.tmps.size = sz) (hw : Below wr.heap.size wr w) : SJ n ia sz D wr V T cs a0 (fun _ => false) a0 b w :=
  ⟨hsz, rfl, (fun _ _ => rfl), hw, (fun _ _ h => by cases h), (fun h => by cases h)⟩
theorem SJ.step (h : SJ n ia sz D wr V T cs a0 d a b w) (hD : ∀ i j, i < n → j < n → D i = D j → i = j) (hlt : ∀ k, k < n → D k < sz) {i : Nat} (hi : i < n) (hia : i ≠ ia) {v : Value} {w' : World} (hv : v = V b i) (hb : Below w.heap.size w w') : SJ n ia sz D wr V T cs a0 (upd d i) (a.put (some (D i)) v) b w' := by
  have hdl : D i < a.tmps.size := by rw [h.tm]; exact hlt i hi
  refine ⟨by simpa [Act.put] using h.tm, h.df, fun t ht => ?_, h.low.trans (hb.mono h.low.size), fun k hk hd => ?_, fun hd => ?_⟩
  · rw [getD_put hdl, if_neg (ht i hi upd_at)]
    refine h.fr t (fun k hk hd => ht k hk ?_)
    unfold upd
    rw [hd]
    split <;> rfl
  · by_cases e : k = i
    · subst e
      rw [getD_put hdl, if_pos rfl]
      exact hv
    · rw [getD_put hdl, if_neg fun z => e (hD k i hk hi z)]
      rw [upd_ne e] at hd
      exact h.got k hk hd
  · rw [upd_ne (fun e => hia e.symm)] at hd
    exact (h.box hd).below hb
theorem SJ.build (h : SJ n ia sz D wr V T cs a0 d a b w) (hD : ∀ i j, i < n → j < n → D i = D j → i = j) (hlt : ∀ k, k < n → D k < sz) (hi : ia < n) (hd : d ia = false) {v : Value} (hv : v = V w.heap.size ia) (hV : ∀ k, k < n → d k = true → V b k = V w.heap.size k) :
    SJ n ia sz D wr V T cs a0 (upd d ia) (a.put (some (D ia)) v) w.heap.size (w.alloc (.cells cs.toArray T)) := by
  have hdl : D ia < a.tmps.size := by rw [h.tm]; exact hlt ia hi
  have hb : Below w.heap.size w (w.alloc (.cells cs.toArray T)) := (Below.refl _ _).alloc (Nat.le_refl _) _
  refine ⟨by simpa [Act.put] using h.tm, h.df, fun t ht => ?_, h.low.trans (hb.mono h.low.size), fun k hk hdk => ?_, fun _ => heap_alloc_new _ _⟩
  · rw [getD_put hdl, if_neg (ht ia hi upd_at)]
    refine h.fr t (fun k hk hdk => ht k hk ?_)
    unfold upd
    rw [hdk]
    split <;> rfl
  · by_cases e : k = ia
    · subst e
      rw [getD_put hdl, if_pos rfl]
      exact hv
    · rw [getD_put hdl, if_neg fun z => e (hD k ia hk hi z)]
      rw [upd_ne e] at hdk
      rw [← hV k hk hdk]
      exact h.got k hk hdk
theorem SJ.cell (h : SJ n ia sz D wr V T cs a0 d a b w) {g k : Nat} {v : Value} (hc : wr.cell? ⟨g, k, none⟩ = some v) : w.cell? ⟨g, k, none⟩ = some v :=
  (h.low.cell (p := ⟨g, k, none⟩) (World.block_lt_of_cell? wr _ hc)).trans hc
end
section
variable {o : Oper} {a : Act} {w : World} {K : Act → World → Prop} {Q : Exit → Act → World → Prop}
theorem mk_load (ty : TypeId) (x : Operand) (ho : o.op = .load ty x) {b p : Nat} {v : Value} (hx : a.eval x = .pointer (some ⟨b, p, none⟩)) (hr : (loadVar ty ⟨b, p, none⟩).run Tryz.prog w = .ok v w)
    (hK : K (a.put o.dst v) w) : o.wp Tryz.prog a w K Q := by
  refine mk_val (v := v) (w' := w) ?_ hK
  unfold execOp
  simp only [ho, hx, Instr.loadAt, Instr.sureAddr, Sem.run_bind, Sem.run_pure, Result.andThen_ok, hr]
theorem mk_cat (x y : Operand) (ty : TypeId) (ho : o.op = .binOp .add 9 x y ty) {s t : ByteArray} (hx : a.eval x = .string s) (hy : a.eval y = .string t) (hl : s.size + t.size ≤ 9223372036854775807)
    (hK : K (a.put o.dst (.string (s ++ t))) w) : o.wp Tryz.prog a w K Q := by
  have hr : (binOp .add 9 (.string s) (.string t)).run Tryz.prog w = .ok (.string (s ++ t)) w := by
    go_simp <;> omega
  refine mk_val (v := .string (s ++ t)) (w' := w) ?_ hK
  unfold execOp
  simp only [ho, hx, hy, eqGuard, Sem.run_bind, Sem.run_pure, Result.andThen_ok]
  simp [hr]
theorem mk_index (ty : TypeId) (x y : Operand) (ho : o.op = .indexAddr ty x y) {v i p : Value} (hx : a.eval x = v) (hy : a.eval y = i) (hr : (Instr.indexAt ty v i).run Tryz.prog w = .ok p w)
    (hK : K (a.put o.dst p) w) : o.wp Tryz.prog a w K Q := by
  refine mk_val (v := p) (w' := w) ?_ hK
  unfold execOp
  simp only [ho, hx, hy, Sem.run_bind, Sem.run_pure, hr, Result.andThen_ok]
end
end Go.Proofs.YtikohamfnnlhcaaGreatDoor

set_option linter.unusedVariables false
set_option linter.unusedSimpArgs false
namespace Go.Proofs.YtikohamfnnlhcaaGreatDoor
open Go.RowKit Go.Deep Go.Shelf
attribute [local go_sem] Oper.semAt_some

section
variable {S : Nat → Prop} {n R : Nat} {X Y Z : World}
theorem notU_of {X : World} {k : Nat} (h : ∀ o, X.heap[k]? = some o → o.isCells = false) : NotU X k := fun cs f he => by have := h _ he; cases this
theorem Kw.keeps (h : Kw n R X Y) {T : TypeId} {cs : List Value} (hR : Own X R T cs) (B : Nat) : KeepsFrom B X Y :=
  ⟨h.size, fun k o _ ho hcl => (h.block k (Array.getElem?_eq_some_iff.1 ho).1 (.inr ⟨(fun e => by subst e; unfold Own at hR; rw [hR] at ho; cases ho; cases hcl), notU_of (fun o' ho' => by rw [ho] at ho'; cases ho'; exact hcl)⟩)).trans ho⟩
theorem Kw.stay (h : Kw n R X Y) (hS : ∀ k, S k → k < n ∨ (k ≠ R ∧ NotU X k)) : Stay S X Y := ⟨h.os, h.tape, h.output, h.size, fun k o hk ho _ => (h.block k (Array.getElem?_eq_some_iff.1 ho).1 (hS k hk)).trans ho⟩
theorem Kw.calm {B : Nat} (h : Kw n R X Y) (hc : Calm B Y Z) (hB : X.heap.size ≤ B) : Kw n R X Z :=
  ⟨hc.os.trans h.os, hc.tape.trans h.tape, hc.output.trans h.output, Nat.le_trans h.size hc.size, fun k hk hc' => by
    have h1 := h.block k hk hc'
    have h2 : X.heap[k]? = some X.heap[k] := Array.getElem?_eq_getElem hk
    rw [h2] at h1 ⊢
    exact hc.block k _ h1 (.inl (by omega))⟩
theorem notU_own {g : Nat} {e : TypeId} {xs : List Value} (h : Own X g e xs) (he : e ≠ 5) : NotU X g := fun cs f hh => by
  unfold Own at h
  rw [h] at hh
  injection hh with hh
  injection hh with _ hh
  exact he hh
end
theorem Wr.calm {w0 W W' : World} {R B : Nat} {T : List UInt8} {m : Int} (h : Wr w0 R T m W) (hc : Calm B W W') (hB : w0.heap.size ≤ B) : Wr w0 R T m W' := by
  obtain ⟨A, c, h1, h2⟩ := h.own
  refine ⟨⟨A, c, hc.own h1, h2.1, h2.2.imp id ?_⟩, h.lo, Below.calm h.base hc (Nat.le_refl _) hB⟩
  rintro ⟨g, cap, cur, h1, hg, hcc, hh⟩
  exact ⟨g, cap, cur, h1, hg, hc.block g _ hcc (.inr rfl), hh⟩
theorem lines_got (p : TPg) (A : Option Addr) (c : Nat) (B : Option Addr) (d : Nat) (m : Int) (w : World) :
    Calls Tryz.prog 38 #[pgV p A c B d, .int .i64 m] w fun e w' => e = .returned (.func (.func 71) #[] #[.pointer (some ⟨w.heap.size, 0, none⟩), .pointer (some ⟨w.heap.size + 1, 0, none⟩)]) ∧
      Own w' w.heap.size 25 [.slice A p.decls.length c, .slice B p.rules.length d] ∧ Own w' (w.heap.size + 1) 3 [.int .i64 m] ∧ Below w.heap.size w w' :=
  (lines_any p A c B d m w).mono fun e w' ⟨h1, h2⟩ => by
    subst h2
    have o1 : Own (w.alloc (.cells #[.slice A p.decls.length c, .slice B p.rules.length d] 25)) w.heap.size 25 [.slice A p.decls.length c, .slice B p.rules.length d] := heap_alloc_new _ _
    exact ⟨h1, o1.alloc (.cells #[.int .i64 m] 3), own_second w _ _ _, ((Below.refl _ _).alloc (Nat.le_refl _) _).alloc (by simp) _⟩
theorem linesT_snocS {Ls : List (List UInt8)} {k : Nat} {L : List UInt8} (h : Ls[k]? = some L) : linesT (Ls.take (k + 1)) = linesT (Ls.take k) ++ (L ++ [10]) := by
  unfold linesT
  obtain ⟨hk, rfl⟩ := List.getElem?_eq_some_iff.1 h
  rw [List.take_succ_eq_append_getElem hk, List.flatMap_append]
  simp
theorem linesT_leS {Ls : List (List UInt8)} {k : Nat} : (linesT (Ls.take k)).length ≤ (linesT Ls).length := by
  unfold linesT
  conv => rhs; rw [← List.take_append_drop k Ls]
  rw [List.flatMap_append, List.length_append]
  omega
/-- between two lines. -/
structure PwI (w0 W0 : World) (R : Nat) (T : List UInt8) (m : Int) (p : TPg) (Pc : List Value) (b2 b4 bp bm : Nat) (k : Nat) (W : World) : Prop where
  wr : Wr w0 R (T ++ linesT ((linesX p).take k)) m W
  fit : ((T ++ linesT ((linesX p).take k)).length : Int) ≤ m
  kw : Kw w0.heap.size R W0 W
  o2 : Own W b2 108 [.pointer (some ⟨R, 0, none⟩)]
  o4 : Own W b4 4 [.bool false]
  op : Own W bp 25 Pc
  om : Own W bm 3 [.int .i64 m]
theorem PwI.calm {w0 W0 : World} {R : Nat} {T : List UInt8} {m : Int} {p : TPg} {Pc : List Value} {b2 b4 bp bm k B : Nat} {X Y : World} (h : PwI w0 W0 R T m p Pc b2 b4 bp bm k X) (hc : Calm B X Y) (hB : W0.heap.size ≤ B) (hB2 : w0.heap.size ≤ B) : PwI w0 W0 R T m p Pc b2 b4 bp bm k Y :=
  ⟨h.wr.calm hc hB2, h.fit, h.kw.calm hc hB, hc.own h.o2, hc.own h.o4, hc.own h.op, hc.own h.om⟩
theorem GotW.calm {w0 W X Y : World} {R k : Nat} {T Z : List UInt8} {m : Int} {e : Ending} (h : GotW w0 R T Z m W e X) (hc : Calm k X Y) (h1 : w0.heap.size ≤ k) (h2 : W.heap.size ≤ k) : GotW w0 R T Z m W e Y := by
  obtain ⟨T', q1, q2, q3, q4, q5, q6⟩ := h
  exact ⟨T', q1, q2, q3, q4, q5.calm hc h1, q6.calm hc h2⟩
theorem Wr.setB {w0 X : World} {R b i : Nat} {T : List UInt8} {m : Int} {Tb : TypeId} {cs : List Value} {u : Value} (h : Wr w0 R T m X) (ho : Own X b Tb cs) (h1 : Tb ≠ 142) (h2 : Tb ≠ 5) (hlo : w0.heap.size ≤ b) : Wr w0 R T m (X.setCell ⟨b, i, none⟩ u) := by
  obtain ⟨A, c, q1, q2⟩ := h.own
  refine ⟨⟨A, c, ?_, owns_set q2 (row_ne q2 ho h2)⟩, h.lo, h.base.setCell (p := ⟨b, i, none⟩) hlo _⟩
  exact ((Kept.refl [b] X).setCell (p := ⟨b, i, none⟩) (.inl (by simp)) u).own q1 (by
    simp only [List.mem_singleton]
    rintro rfl
    exact h1 (ho.inj q1))
theorem Kw.setNew {n R b i : Nat} {a X : World} {u : Value} (h : Kw n R a X) (hb : a.heap.size ≤ b) : Kw n R a (X.setCell ⟨b, i, none⟩ u) :=
  ⟨h.os, h.tape, h.output, by have := h.size; simpa [World.setCell] using this, fun k hk hc => (Below.heap_setCell _ _ _ _ (by show k ≠ b; omega)).trans (h.block k hk hc)⟩
def pwD (k : Nat) : Nat := ([6, 7, 8, 9, 10, 11] : List Nat).getD k 0
theorem pw_inj : ∀ i j, i < 6 → j < 6 → pwD i = pwD j → i = j := inj_of (by kernel_rfl)
theorem pw_lt : ∀ k, k < 6 → pwD k < 18 := lt_of (n := 18) (by kernel_rfl)
def pwV (p : TPg) (A : Option Addr) (c : Nat) (B : Option Addr) (d : Nat) (R : Nat) (m : Int) (bx : Nat) : Nat → Value := fun k => if k = 0 then .agg #[.slice A p.decls.length c, .slice B p.rules.length d] else if k = 1 then .pointer (some ⟨R, 0, none⟩) else if k = 2 then .pointer (some ⟨R, 0, none⟩) else if k = 3 then .pointer (some ⟨R, 1, none⟩) else if k = 4 then .int .i64 m else .func (.func 71) #[] #[.pointer (some ⟨bx, 0, none⟩), .pointer (some ⟨bx + 1, 0, none⟩)]
theorem pwV_same (p : TPg) (A : Option Addr) (c : Nat) (B : Option Addr) (d : Nat) (R : Nat) (m : Int) (x y k : Nat) (hk : k < 6) (h5 : k ≠ 5) : pwV p A c B d R m x k = pwV p A c B d R m y k := by
  unfold pwV
  (repeat' split) <;> first | rfl | omega
theorem infoTPg : (Tryz.prog.info? 25).map (·.size) = some 2 := by kernel_rfl
theorem pw_f2 {d : Nat → Bool} : ∀ k, k < 6 → d k = true → (2 : Nat) ≠ pwD k := fun k hk _ => by
  have : ∀ k, k < 6 → (2 : Nat) ≠ pwD k := by decide
  exact this k hk
theorem pw_f3 {d : Nat → Bool} : ∀ k, k < 6 → d k = true → (3 : Nat) ≠ pwD k := fun k hk _ => by
  have : ∀ k, k < 6 → (3 : Nat) ≠ pwD k := by decide
  exact this k hk
set_option maxRecDepth 100000 in
set_option maxHeartbeats 2000000 in
theorem program_w (w0 : World) (R : Nat) (T : List UInt8) (m : Int) (p : TPg) (A : Option Addr) (c : Nat) (B : Option Addr) (d : Nat) (W : World) (hf : formedB p = true) (hV : PgV w0 p A B) (hS : Sht w0) (hK : StrTab w0 3 kindsL) (h : Wr w0 R T m W) (h0 : (T.length : Int) ≤ m) (hl : (T ++ txPg p).length ≤ 70368744177664) :
    Calls Tryz.prog 41 #[.pointer (some ⟨R, 0, none⟩), pgV p A c B d] W (GotW w0 R T (txPg p) m W) := by
  refine (callsIn_wide (n := 9)).1 ?_
  have mixed : Tryz.prog.follows .mixedOrders = true := by kernel_rfl
  have hff : Fence.wide.fn 41 := trivial
  have hfl : Fence.wide.fn 38 := trivial
  have hfp : Fence.wide.fn 74 := trivial
  have hF : Fence.wide.fn 71 := trivial
  have hRl := h.lt
  have hb : Below W.heap.size W (((W.alloc (.cells #[.pointer (some ⟨R, 0, none⟩)] 108)).alloc (.cells #[.slice A p.decls.length c, .slice B p.rules.length d] 25)).alloc (.cells #[.bool false] 4)) := (((Below.refl _ _).alloc (Nat.le_refl _) _).alloc (by simp) _).alloc (by simp; omega) _
  have o2 : Own (W.alloc (.cells #[.pointer (some ⟨R, 0, none⟩)] 108)) W.heap.size 108 [.pointer (some ⟨R, 0, none⟩)] := heap_alloc_new _ _
  have o2 := (o2.alloc (.cells #[.slice A p.decls.length c, .slice B p.rules.length d] 25)).alloc (.cells #[.bool false] 4)
  have o3 := own_second W (.cells #[.pointer (some ⟨R, 0, none⟩)] 108) #[.slice A p.decls.length c, .slice B p.rules.length d] 25
  have o3 : Own ((W.alloc (.cells #[.pointer (some ⟨R, 0, none⟩)] 108)).alloc (.cells #[.slice A p.decls.length c, .slice B p.rules.length d] 25)) (W.heap.size + 1) 25 [.slice A p.decls.length c, .slice B p.rules.length d] := o3
  have o3 := o3.alloc (.cells #[.bool false] 4)
  have o4 := heap_alloc_new ((W.alloc (.cells #[.pointer (some ⟨R, 0, none⟩)] 108)).alloc (.cells #[.slice A p.decls.length c, .slice B p.rules.length d] 25)) (.cells #[.bool false] 4)
  simp only [World.size_alloc] at o4
  obtain ⟨W1, hW1⟩ : ∃ W1, W1 = (((W.alloc (.cells #[.pointer (some ⟨R, 0, none⟩)] 108)).alloc (.cells #[.slice A p.decls.length c, .slice B p.rules.length d] 25)).alloc (.cells #[.bool false] 4)) := ⟨_, rfl⟩
  rw [← hW1] at hb o2 o3 o4
  have o4 : Own W1 (W.heap.size + 1 + 1) 4 [.bool false] := o4
  obtain ⟨A9, c9, p9, _⟩ := (h.below hb).own
  have y1 := p9.cell 1
  have yl := p9.lt
  have x0 := o2.cell 0
  have xl := o2.lt
  have z0 := o3.cell 0
  have z1 := o3.cell 1
  have zl := o3.lt
  simp only [List.getElem?_cons_zero, List.getElem?_cons_succ] at y1 x0 z0 z1
  have HB := Lib.hid hb
  have HO2 := Lib.hid o2
  have HO3 := Lib.hid o3
  have HO4 := Lib.hid o4
  have HW := Lib.hid h
  have HV := Lib.hid hV
  have HS := Lib.hid hS
  have HK := Lib.hid hK
  have HFm := Lib.hid hf
  have HLl := Lib.hid hl
  have HLg := Lib.hid (fun X => lines_got p A c B d m X)
  unfold pgV at HLg ⊢
  clear hb o2 o3 o4 p9 h hV hS hK hf hl
  refine callsIn_of_wp_marks Tryz.func41 rfl hff ?_ rfl
  simp only [Tryz.ntmps41, List.size_toArray, List.length_cons, List.length_nil, Nat.reduceAdd, Nat.reduceSub, Array.replicate_succ, Array.replicate_zero, List.push_toArray, List.append_toArray, List.nil_append, List.cons_append]
  gi_wp2_with fail
  rw [← hW1]
  rename_i K1 hK1
  refine wpIn_wide.2 ?_
  refine wp_region_inv' (n := 6) (J := fun a0 dd a w' => ∃ bx, SJ 6 99 18 pwD W1 (pwV p A c B d R m) 3 [] a0 dd a bx w' ∧ (dd 5 = true → Own w' bx 25 [.slice A p.decls.length c, .slice B p.rules.length d] ∧ Own w' (bx + 1) 3 [.int .i64 m]) ∧ dd 99 = false) mixed rfl ?hac ?hg ?h0 ?hstep ?hend
  case hac => exact ac_of' (by kernel_rfl)
  case hg => exact guard_of (by kernel_rfl)
  case h0 => exact ⟨0, SJ.start rfl (Below.refl _ _).drew, (fun z => by cases z), rfl⟩
  case hstep =>
    intro i oo dd a w2 hi ho hdi hdep hJ K hK
    obtain ⟨bx, hJ, hBx, h99⟩ := hJ
    match i, hi with
    | 0, _ =>
      simp only [List.getElem?_toArray, List.getElem?_cons_zero, List.getElem?_cons_succ, Option.some.injEq] at ho
      subst ho
      have h1 : a.tmps.getD 3 undef = .pointer (some ⟨W.heap.size + 1, 0, none⟩) := (hJ.fr 3 pw_f3).trans rfl
      refine mk_load 25 (.tmp 3) rfl h1 (run_loadVar_at w2 (W.heap.size + 1) 0 25 [.slice A p.decls.length c, .slice B p.rules.length d] _ (fun i v hv => by rw [Nat.zero_add]; exact ((HO3.out.below hJ.low).cell i).trans hv) Tryz.underlying25 rfl infoTPg) (hK _ _ ⟨bx, hJ.step pw_inj pw_lt (i := 0) (by omega) (by decide) rfl (Below.refl _ _), (fun z => hBx (by rw [← z]; exact (upd_ne (by decide)).symm)), (upd_ne (by decide)).trans h99⟩)
    | 1, _ =>
      simp only [List.getElem?_toArray, List.getElem?_cons_zero, List.getElem?_cons_succ, Option.some.injEq] at ho
      subst ho
      have h1 : a.tmps.getD 2 undef = .pointer (some ⟨W.heap.size, 0, none⟩) := (hJ.fr 2 pw_f2).trans rfl
      refine mk_load 108 (.tmp 2) rfl h1 (load_one w2 (W.heap.size) 0 108 _ _ ((HO2.out.below hJ.low).cell 0) Tryz.underlying108 rfl) (hK _ _ ⟨bx, hJ.step pw_inj pw_lt (i := 1) (by omega) (by decide) rfl (Below.refl _ _), (fun z => hBx (by rw [← z]; exact (upd_ne (by decide)).symm)), (upd_ne (by decide)).trans h99⟩)
    | 2, _ =>
      simp only [List.getElem?_toArray, List.getElem?_cons_zero, List.getElem?_cons_succ, Option.some.injEq] at ho
      subst ho
      have h1 : a.tmps.getD 7 undef = .pointer (some ⟨R, 0, none⟩) := hJ.got 1 (by omega) (hdep ⟨1, .data⟩ (by simp) rfl)
      refine mk_val (v := .pointer (some ⟨R, 0, none⟩)) (w' := w2) (by simp only [execOp, Act.eval, h1]; kernel_rfl) (hK _ _ ⟨bx, hJ.step pw_inj pw_lt (i := 2) (by omega) (by decide) rfl (Below.refl _ _), (fun z => hBx (by rw [← z]; exact (upd_ne (by decide)).symm)), (upd_ne (by decide)).trans h99⟩)
    | 3, _ =>
      simp only [List.getElem?_toArray, List.getElem?_cons_zero, List.getElem?_cons_succ, Option.some.injEq] at ho
      subst ho
      have h1 : a.tmps.getD 8 undef = .pointer (some ⟨R, 0, none⟩) := hJ.got 2 (by omega) (hdep ⟨2, .data⟩ (by simp) rfl)
      refine mk_val (v := .pointer (some ⟨R, 1, none⟩)) (w' := w2) (by simp only [execOp, Act.eval, h1]; kernel_rfl) (hK _ _ ⟨bx, hJ.step pw_inj pw_lt (i := 3) (by omega) (by decide) rfl (Below.refl _ _), (fun z => hBx (by rw [← z]; exact (upd_ne (by decide)).symm)), (upd_ne (by decide)).trans h99⟩)
    | 4, _ =>
      simp only [List.getElem?_toArray, List.getElem?_cons_zero, List.getElem?_cons_succ, Option.some.injEq] at ho
      subst ho
      have h1 : a.tmps.getD 9 undef = .pointer (some ⟨R, 1, none⟩) := hJ.got 3 (by omega) (hdep ⟨3, .data⟩ (by simp) rfl)
      refine mk_load 3 (.tmp 9) rfl h1 (load_one w2 R 1 3 _ _ ((hJ.low.cell (p := ⟨R, 1, none⟩) yl).trans y1) Tryz.underlying3 rfl) (hK _ _ ⟨bx, hJ.step pw_inj pw_lt (i := 4) (by omega) (by decide) rfl (Below.refl _ _), (fun z => hBx (by rw [← z]; exact (upd_ne (by decide)).symm)), (upd_ne (by decide)).trans h99⟩)
    | 5, _ =>
      simp only [List.getElem?_toArray, List.getElem?_cons_zero, List.getElem?_cons_succ, Option.some.injEq] at ho
      subst ho
      have h1 : a.tmps.getD 6 undef = .agg #[.slice A p.decls.length c, .slice B p.rules.length d] := hJ.got 0 (by omega) (hdep ⟨0, .data⟩ (by simp) rfl)
      have h2 : a.tmps.getD 10 undef = .int .i64 m := hJ.got 4 (by omega) (hdep ⟨4, .data⟩ (by simp) rfl)
      refine mk_call (f := 38) (args := #[.agg #[.slice A p.decls.length c, .slice B p.rules.length d], .int .i64 m]) (by simp only [execOp, resolve, Act.eval, List.map_toArray, List.map_cons, List.map_nil, h1, h2] <;> kernel_rfl) ((HLg.out w2).mono ?_)
      rintro e w' ⟨rfl, q3, q4, q5⟩
      have hJ' : SJ 6 99 18 pwD W1 (pwV p A c B d R m) 3 [] _ dd a w2.heap.size w2 := ⟨hJ.tm, hJ.df, hJ.fr, hJ.low, (fun k hk hd => (hJ.got k hk hd).trans (pwV_same p A c B d R m bx w2.heap.size k hk (fun e => by subst e; rw [hdi] at hd; cases hd))), (fun z => by rw [h99] at z; cases z)⟩
      exact ⟨_, rfl, hK _ _ ⟨w2.heap.size, hJ'.step pw_inj pw_lt (i := 5) (by omega) (by decide) rfl q5, (fun _ => ⟨q3, q4⟩), (upd_ne (by decide)).trans h99⟩⟩
    | n + 6, h => omega
  case hend =>
    intro dd a w2 hall hJ
    obtain ⟨bx, hJ, hBx, h99⟩ := hJ
    obtain ⟨qp, qm⟩ := hBx (hall 5 (by omega))
    have HL := Lib.hid hJ.low
    have HQp := Lib.hid qp
    have HQm := Lib.hid qm
    have hg : ∀ k, k < 6 → a.tmps.getD (pwD k) undef = pwV p A c B d R m bx k := fun k hk => hJ.got k hk (hall k hk)
    have hfr : ∀ t, (∀ k, k < 6 → t ≠ pwD k) → a.tmps.getD t undef = _ := fun t ht => hJ.fr t (fun k hk _ => ht k hk)
    have hdf := hJ.df
    have hsz : a.tmps.size = 18 := hJ.tm
    refine hK1 _ _ ?_
    clear hK1 hJ hall hBx h99 qp qm
    obtain ⟨⟨l⟩, df⟩ := a
    simp only at hdf hsz hfr hg  ⊢
    subst hdf
    change l.length = 18 at hsz
    obtain ⟨t0, l0, rfl, hz0⟩ := cons_of hsz
    obtain ⟨t1, l1, rfl, hz1⟩ := cons_of hz0
    obtain ⟨t2, l2, rfl, hz2⟩ := cons_of hz1
    obtain ⟨t3, l3, rfl, hz3⟩ := cons_of hz2
    obtain ⟨t4, l4, rfl, hz4⟩ := cons_of hz3
    obtain ⟨t5, l5, rfl, hz5⟩ := cons_of hz4
    obtain ⟨t6, l6, rfl, hz6⟩ := cons_of hz5
    obtain ⟨t7, l7, rfl, hz7⟩ := cons_of hz6
    obtain ⟨t8, l8, rfl, hz8⟩ := cons_of hz7
    obtain ⟨t9, l9, rfl, hz9⟩ := cons_of hz8
    obtain ⟨t10, l10, rfl, hz10⟩ := cons_of hz9
    obtain ⟨t11, l11, rfl, hz11⟩ := cons_of hz10
    obtain ⟨t12, l12, rfl, hz12⟩ := cons_of hz11
    obtain ⟨t13, l13, rfl, hz13⟩ := cons_of hz12
    obtain ⟨t14, l14, rfl, hz14⟩ := cons_of hz13
    obtain ⟨t15, l15, rfl, hz15⟩ := cons_of hz14
    obtain ⟨t16, l16, rfl, hz16⟩ := cons_of hz15
    obtain ⟨t17, l17, rfl, hz17⟩ := cons_of hz16
    obtain rfl : l17 = [] := List.eq_nil_of_length_eq_zero hz17
    clear hsz hz0 hz1 hz2 hz3 hz4 hz5 hz6 hz7 hz8 hz9 hz10 hz11 hz12 hz13 hz14 hz15 hz16 hz17
    have f0 := hfr 0 (by decide)
    change t0 = .pointer (some ⟨R, 0, none⟩) at f0
    subst f0
    have f1 := hfr 1 (by decide)
    change t1 = .agg #[.slice A p.decls.length c, .slice B p.rules.length d] at f1
    subst f1
    have f2 := hfr 2 (by decide)
    change t2 = .pointer (some ⟨W.heap.size, 0, none⟩) at f2
    subst f2
    have f3 := hfr 3 (by decide)
    change t3 = .pointer (some ⟨W.heap.size + 1, 0, none⟩) at f3
    subst f3
    have f4 := hfr 4 (by decide)
    change t4 = .pointer (some ⟨W.heap.size + 1 + 1, 0, none⟩) at f4
    subst f4
    have f5 := hfr 5 (by decide)
    change t5 = undef at f5
    subst f5
    have f6 : t6 = .agg #[.slice A p.decls.length c, .slice B p.rules.length d] := hg 0 (by omega)
    subst f6
    have f7 : t7 = .pointer (some ⟨R, 0, none⟩) := hg 1 (by omega)
    subst f7
    have f8 : t8 = .pointer (some ⟨R, 0, none⟩) := hg 2 (by omega)
    subst f8
    have f9 : t9 = .pointer (some ⟨R, 1, none⟩) := hg 3 (by omega)
    subst f9
    have f10 : t10 = .int .i64 m := hg 4 (by omega)
    subst f10
    have f11 : t11 = .func (.func 71) #[] #[.pointer (some ⟨bx, 0, none⟩), .pointer (some ⟨bx + 1, 0, none⟩)] := hg 5 (by omega)
    subst f11
    have f12 := hfr 12 (by decide)
    change t12 = undef at f12
    subst f12
    have f13 := hfr 13 (by decide)
    change t13 = undef at f13
    subst f13
    have f14 := hfr 14 (by decide)
    change t14 = undef at f14
    subst f14
    have f15 := hfr 15 (by decide)
    change t15 = undef at f15
    subst f15
    have f16 := hfr 16 (by decide)
    change t16 = undef at f16
    subst f16
    have f17 := hfr 17 (by decide)
    change t17 = undef at f17
    subst f17
    clear hfr hg
    gi_wp2_with fail
    have hlo2 := HL.out.size
    have I0 : PwI w0 W R T m p [.slice A p.decls.length c, .slice B p.rules.length d] W.heap.size (W.heap.size + 1 + 1) bx (bx + 1) 0 w2 := by
      have hW2 := (HW.out.below (HB.out.trans (HL.out.mono HB.out.size)))
      have e : T ++ linesT ((linesX p).take 0) = T := by simp [linesT]
      exact ⟨by rw [e]; exact hW2, by rw [e]; exact h0, Kw.of (HB.out.trans (HL.out.mono HB.out.size)), HO2.out.below HL.out, HO4.out.below HL.out, HQp.out, HQm.out⟩
    have HI0 := Lib.hid I0
    have hwb := (HB.out.trans (HL.out.mono HB.out.size)).size
    have hw0 := HW.out.base.size
    have HBase := Lib.hid (HW.out.base.trans ((HB.out.trans (HL.out.mono HB.out.size)).mono HW.out.base.size))
    clear I0 hlo2 x0 xl y1 yl z0 z1 zl hW1 HB HL HO2 HO3 HO4 HQp HQm HLg
    refine range_law (Kp := Stay (fun k => k < w0.heap.size ∨ k = bx ∨ k = bx + 1)) (Px := fun pre x _ => LnP m (linesX p) (pre ++ [x])) (S := fun xs => LnP m (linesX p) xs ∧ xs.length = (linesX p).length) (Sp := fun pre => LnP m (linesX p) pre) (encs := fun x : ByteArray => #[.string x]) rfl (by omega) (gf := 71) (lb := #[.pointer (some ⟨bx, 0, none⟩), .pointer (some ⟨bx + 1, 0, none⟩)]) rfl hF (enters_of Tryz.func71 (by kernel_rfl) rfl)
      ?seq (fun h h' => h.trans h') (fun X Y hX hc => Stay.calm hc) (fun _ => rfl)
      (fun pre X => PwI w0 W R T m p [.slice A p.decls.length c, .slice B p.rules.length d] W.heap.size (W.heap.size + 1 + 1) bx (bx + 1) pre.length X) (fun cd pre X => cd = Code.ret ∧ GotW w0 R T (txPg p) m W (.returned (.bool false)) X ∧ Own X (W.heap.size + 1 + 1) 4 [.bool false]) (fun s X Y h hc => h.calm hc (by omega) (by omega)) (fun cd s X Y h hc => ?ix)
      (fun pre x X Y h hc => h) ?i0
      (fun x => { tmps := #[.pointer (some ⟨R, 0, none⟩), .agg #[.slice A p.decls.length c, .slice B p.rules.length d], .pointer (some ⟨W.heap.size, 0, none⟩), .pointer (some ⟨W.heap.size + 1, 0, none⟩), .pointer (some ⟨W.heap.size + 1 + 1, 0, none⟩), .string x, .agg #[.slice A p.decls.length c, .slice B p.rules.length d], .pointer (some ⟨R, 0, none⟩), .pointer (some ⟨R, 0, none⟩), .pointer (some ⟨R, 1, none⟩), .int .i64 m, .func (.func 71) #[] #[.pointer (some ⟨bx, 0, none⟩), .pointer (some ⟨bx + 1, 0, none⟩)], .string x, undef, undef, undef, undef, undef], defers := [] }) ?assign ?body ?done ?stop
    case ix => exact ⟨h.1, h.2.1.calm hc (by omega) (by omega), hc.own h.2.2⟩
    case i0 => exact HI0.out
    case seq =>
      intro l J Jx X hX hJ hJx hY h0'
      exact lines_in 8 (by omega) l p A c B d m bx (bx + 1) (fun X => Calm 0 w0 X ∧ Own X bx 25 [.slice A p.decls.length c, .slice B p.rules.length d] ∧ Own X (bx + 1) 3 [.int .i64 m]) (Stay (fun k => k < w0.heap.size ∨ k = bx ∨ k = bx + 1)) J Jx X HFm.out
        (fun X h => ⟨HV.out.pers (.calm h.1), h.1.sht HS.out, h.1.strTab HK.out, h.2.1.cell 0, h.2.1.cell 1, h.2.2.cell 0⟩) (fun X Y h hb => ⟨h.1.trans (Calm.of_below 0 hb), h.2.1.below hb, h.2.2.below hb⟩)
        (fun X Y h hs => ⟨h.1.stay hs (fun _ hk => .inl hk), hs.own h.2.1 (.inr (.inl rfl)), hs.own h.2.2 (.inr (.inr rfl))⟩) hJ hJx (fun pre x W1 h1 h2 => hY pre x W1 h1 h2) h0' ⟨(Calm.of_below 0 HBase.out).trans (Calm.of_below 0 hX), HI0.out.op.below hX, HI0.out.om.below hX⟩
    case assign =>
      intro l x X K hK
      gi_wp2
      exact hK
    case body =>
      rintro l pre x X hI hpre
      have hkl : pre.length < (linesX p).length := by have := hpre.1; simp at this; omega
      obtain ⟨L, hL⟩ : ∃ L, (linesX p)[pre.length]? = some L := ⟨_, List.getElem?_eq_getElem hkl⟩
      have hlim : Lim m L x := hpre.2 pre.length x L (by rw [List.getElem?_append_right (Nat.le_refl _), Nat.sub_self]; rfl) hL
      have hsn := linesT_snocS hL
      have hle := linesT_leS (Ls := linesX p) (k := pre.length + 1)
      rw [hsn] at hle
      have hxl : x.data.toList.length = x.size := by simp
      have hl9 := HLl.out
      have hl3 := hlim.2.2
      have hlen : ((T ++ linesT ((linesX p).take pre.length)) ++ (x.data.toList ++ [10])).length ≤ (T ++ txPg p).length := by
        unfold txPg
        simp only [List.length_append, List.length_cons, List.length_nil] at hle ⊢
        omega
      have o1 : Own (X.alloc (.cells #[.string x, .string ⟨#[10]⟩] 9)) X.heap.size 9 [.string (bts x.data.toList), .string (bts [10])] := by rw [bts_of]; exact heap_alloc_new _ _
      have HP := Lib.hid (put2 (hI.wr.below ((Below.refl _ _).alloc (Nat.le_refl _) (.cells #[.string x, .string ⟨#[10]⟩] 9))) o1 (by have := hI.wr.lt; omega) (Nat.le_trans hlen HLl.out))
      have x0 := hI.o2.cell 0
      have xl := hI.o2.lt
      simp only [List.getElem?_cons_zero] at x0
      have HI := Lib.hid hI
      have HLim := Lib.hid hlim
      have HSn := Lib.hid hsn
      have HLen := Lib.hid hlen
      have HLe := Lib.hid hle
      have HLL := Lib.hid hL
      clear hI hlim hsn hle hlen hL hpre o1
      gi_wp2_with fail
      refine (CallsIn.inRound l (callsIn_wide.2 HP.out)).mono ?_
      rintro e X2 ⟨T2, rfl, p1, p2, p3, w4, k4⟩
      have kX : Kw w0.heap.size R X X2 := ((Kw.refl X).alloc _).trans k4
      have kW := HI.out.kw.trans kX
      have hb4 : W.heap.size + 1 + 1 ≠ R := by omega
      have O4 := kX.own HI.out.o4 hb4 (by decide)
      have O2 := kX.own HI.out.o2 (by omega) (by decide)
      obtain ⟨A8, c8, or8, _⟩ := HI.out.wr.own
      have nP : bx ≠ R := fun e => absurd (HI.out.op.inj (e ▸ or8)) (by decide)
      have nM : bx + 1 ≠ R := fun e => absurd (HI.out.om.inj (e ▸ or8)) (by decide)
      have OP := kX.own HI.out.op nP (by decide)
      have OM := kX.own HI.out.om nM (by decide)
      cases hq : decide (((((T ++ linesT ((linesX p).take pre.length)) ++ (x.data.toList ++ [10])).length : Nat) : Int) ≤ m) with
      | false =>
        have hnd := of_decide_eq_false hq
        have HG : Hid (GotW w0 R T (txPg p) m W (.returned (.bool false)) (X2.setCell ⟨W.heap.size + 1 + 1, 0, none⟩ (.bool false))) := by
          have h1 := HLen.out
          refine ⟨T2, ?_, fun h => absurd h (by omega), fun _ => p2 hnd, by omega, w4.setB O4 (by decide) (by decide) (by omega), kW.setNew (by omega)⟩
          rw [decide_eq_false (by omega)]
        have HO := Lib.hid (O4.set 0 (.bool false))
        have HKf := Lib.hid (KeepsFrom.trans (kX.keeps or8 w2.heap.size) ((KeepsOthers.setCell X2 ⟨W.heap.size + 1 + 1, 0, none⟩ (.bool false)).from w2.heap.size))
        have n4 := O4.frozen 0
        have c4 := O4.cell 0
        have q4 := O4.lt
        simp only [List.getElem?_cons_zero] at c4
        clear p1 p2 p3 w4 k4 kX kW O4 O2 OP OM or8 hq hnd HP
        gi_wp2_with fail
        exact ⟨HKf.out, rfl, HG.out, HO.out⟩
      | true =>
        have hyd := of_decide_eq_true hq
        have hT2 := p1 hyd
        have hx : x.data.toList = L := by
          have h1 : (L.length : Int) ≤ m := by
            rcases Int.lt_or_le m (L.length : Int) with h | h
            · have := HLim.out.2.1 (by omega)
              simp only [List.length_append, List.length_cons, List.length_nil] at hyd
              omega
            · exact h
          rw [HLim.out.1 h1, bts_list]
        have hT3 : T2 = T ++ linesT ((linesX p).take (pre ++ [x]).length) := by
          rw [hT2, hx, List.length_append, List.length_singleton, HSn.out, List.append_assoc]
        have HQ : Hid (KeepsFrom w2.heap.size X X2 ∧ Stay (fun k => k < w0.heap.size ∨ k = bx ∨ k = bx + 1) X X2 ∧ PwI w0 W R T m p [.slice A p.decls.length c, .slice B p.rules.length d] W.heap.size (W.heap.size + 1 + 1) bx (bx + 1) (pre ++ [x]).length X2) := by
          refine ⟨kX.keeps or8 _, kX.stay (fun k hk => ?_), by rw [← hT3]; exact w4, by rw [← hT3, hT2]; exact hyd, kW, O2, O4, OP, OM⟩
          rcases hk with hk | hk | hk
          · exact .inl hk
          · subst hk; exact .inr ⟨nP, notU_own HI.out.op (by decide)⟩
          · subst hk; exact .inr ⟨nM, notU_own HI.out.om (by decide)⟩
        clear p1 p2 p3 w4 k4 kX kW O4 O2 OP OM or8 hq hyd hT2 hx hT3 HP
        gi_wp2_with fail
        exact HQ.out
    case done =>
      rintro D ys X hD hys hI hK
      have e : T ++ linesT ((linesX p).take ys.length) = T ++ txPg p := by rw [hys.2, List.take_length]; rfl
      have hwr := hI.wr
      have hfit := hI.fit
      rw [e] at hwr hfit
      have n4 := hI.o4.frozen 0
      have c4 := hI.o4.cell 0
      have q4 := hI.o4.lt
      simp only [List.getElem?_cons_zero] at c4
      have hK2 : (X.setCell ⟨W.heap.size + 1 + 1, 0, none⟩ (.bool true)).heap[D]? = some (.deferred (some [])) := (KeepsOthers.setCell _ _ _).same D _ hK rfl
      have hO4 := hI.o4.set 0 (.bool true)
      have hcm : Calm w2.heap.size (X.setCell ⟨W.heap.size + 1 + 1, 0, none⟩ (.bool true)) ((X.setCell ⟨W.heap.size + 1 + 1, 0, none⟩ (.bool true)).putObj D (.deferred none)) := Calm.put _ hK2 rfl hD
      have HG : Hid (GotW w0 R T (txPg p) m W (.returned (.bool true)) ((X.setCell ⟨W.heap.size + 1 + 1, 0, none⟩ (.bool true)).putObj D (.deferred none))) := by
        refine ⟨T ++ txPg p, ?_, fun _ => rfl, fun h => absurd hfit h, Nat.le_refl _, (hwr.setB hI.o4 (by decide) (by decide) (by omega)).calm hcm (by omega), (hI.kw.setNew (by omega)).calm hcm (by omega)⟩
        rw [decide_eq_true hfit]
      have HO := Lib.hid (hcm.own hO4)
      have HK2 := Lib.hid hK2
      clear hI hwr hfit hK2 hO4 hcm hys hK e
      gi_wp2_with fail
      refine ⟨by simp, .inl ⟨_, _, rfl, run_takeDeferred HK2.out, ?_⟩⟩
      exact ⟨.bool true, (by simp [results, Tryz.results41, go_sem, HO.out.cell 0]), HG.out⟩
    case stop =>
      rintro D cd pre X hD hpre ⟨rfl, hG, hO⟩ hK
      have hcm : Calm w2.heap.size X (X.putObj D (.deferred none)) := Calm.put _ hK rfl hD
      have HG := Lib.hid (hG.calm hcm (by omega) (by omega))
      have HO := Lib.hid (hcm.own hO)
      have HK2 := Lib.hid hK
      clear hG hO hK hcm
      gi_wp2_with fail
      refine ⟨by simp, .inl ⟨_, _, rfl, run_takeDeferred HK2.out, ?_⟩⟩
      exact ⟨.bool false, (by simp [results, Tryz.results41, go_sem, HO.out.cell 0]), HG.out⟩
end Go.Proofs.YtikohamfnnlhcaaGreatDoor

set_option linter.unusedVariables false
set_option linter.unusedSimpArgs false
namespace Go.Proofs.YtikohamfnnlhcaaGreatDoor
open Go.RowKit Go.Deep Go.Shelf

set_option maxRecDepth 100000 in
set_option maxHeartbeats 2000000 in
theorem text_prog (p : TPg) (A : Option Addr) (c : Nat) (B : Option Addr) (d : Nat) (m : Int) (w : World) (hm : 0 ≤ m) (hV : PgV w p A B) (hS : Sht w) (hK : StrTab w 3 kindsL) :
    Calls Tryz.prog 40 #[pgV p A c B d, .func (.func 36) #[] #[], .func (.func 41) #[] #[], .int .i64 m] w (GotT w (formedB p) (txPg p) m) := by
  have hb : Below w.heap.size w (w.alloc (.cells #[.slice A p.decls.length c, .slice B p.rules.length d] 25)) := (Below.refl _ _).alloc (Nat.le_refl _) _
  have HO : Hid (Own (w.alloc (.cells #[.slice A p.decls.length c, .slice B p.rules.length d] 25)) w.heap.size 25 [.slice A p.decls.length c, .slice B p.rules.length d]) := heap_alloc_new _ _
  have HB := Lib.hid hb
  have HC := Lib.hid (Formed_any p A c B d _ (hV.below hb) (hS.lays.below hb))
  have HWr : Hid (formedB p = true → ∀ W, Below w.heap.size w W → Calls Tryz.prog 41 #[.pointer (some ⟨W.heap.size, 0, none⟩), .agg #[.slice A p.decls.length c, .slice B p.rules.length d]] (W.alloc (.cells #[.slice none 0 0, .int .i64 m] 142)) (GotW W W.heap.size [] (txPg p) m (W.alloc (.cells #[.slice none 0 0, .int .i64 m] 142)))) := fun hrt W hW => program_w W W.heap.size [] m p A c B d _ hrt (hV.below hW) (hS.below hW) (hK.below hW) (Wr.new W m) (by simpa using hm) (by rw [List.nil_append]; exact Nat.le_trans (txPg_len hrt) (by decide))
  clear hb hV hS hK
  cases hrt : formedB p with
  | false =>
    rw [hrt] at HC
    clear HWr hrt
    go_enter Tryz.func40, Tryz.ntmps40
    go_wp2_with fail
    refine HC.out.mono ?_
    rintro q W2 ⟨rfl, b2⟩
    have HB2 := Lib.hid (HB.out.trans (b2.mono HB.out.size))
    clear b2 HC
    go_wp2
    go_ret2
    exact ⟨by rw [outS_not, outE_not]; rfl, HB2.out⟩
  | true =>
    rw [hrt] at HC
    have HWr := Lib.hid (HWr.out hrt)
    clear hrt
    generalize txPg p = X at *
    go_enter Tryz.func40, Tryz.ntmps40
    go_wp2_with fail
    refine HC.out.mono ?_
    rintro q W2 ⟨rfl, b2⟩
    have HB2 := Lib.hid (HB.out.trans (b2.mono HB.out.size))
    have HO3 := Lib.hid ((HO.out.below b2).alloc (.cells #[.slice none 0 0, .int .i64 m] 142))
    have HP := Lib.hid (HWr.out W2 HB2.out)
    have e0 := HO3.out.cell 0
    have e1 := HO3.out.cell 1
    have el := HO3.out.lt
    simp only [List.getElem?_cons_zero, List.getElem?_cons_succ] at e0 e1
    clear b2 HC HWr HB
    go_wp2_with fail
    refine HP.out.mono ?_
    rintro q W4 ⟨T4, rfl, p1, p2, p3, w4, k4⟩
    rw [List.nil_append] at p1 p2 p3
    simp only [List.nil_append]
    have HF := Lib.hid (HB2.out.trans (w4.base.mono HB2.out.size))
    clear k4 HP HB2 HO HO3 e0 e1 el
    cases hq : decide ((X.length : Int) ≤ m) with
    | false =>
      have hE : outE true X m = 3 := if_neg (of_decide_eq_false hq)
      have hX : outS true X m = noText := by unfold outS; rw [hq]; rfl
      clear p1 p2 p3 w4 hq
      go_wp2
      go_ret2
      exact ⟨by rw [hE, hX]; rfl, HF.out⟩
    | true =>
      have hT : T4 = X := p1 (of_decide_eq_true hq)
      subst hT
      have hE : outE true T4 m = 0 := if_pos (of_decide_eq_true hq)
      have hX : outS true T4 m = bts T4 := by unfold outS; rw [hq]; rfl
      obtain ⟨A9, c9, o9, r9⟩ := w4.own
      have hcv := convS r9
      have y0 := o9.cell 0
      have yl := o9.lt
      simp only [List.getElem?_cons_zero] at y0
      clear p1 p2 p3 w4 hq o9 r9
      go_wp2
      go_ret2
      exact ⟨by rw [hE, hX]; rfl, HF.out⟩
set_option maxRecDepth 100000 in
set_option maxHeartbeats 2000000 in
theorem Program_anyS (p : TPg) (A : Option Addr) (c : Nat) (B : Option Addr) (d : Nat) (w : World) (hV : PgV w p A B) (hS : Sht w) (hK : StrTab w 3 kindsL) :
    Calls Tryz.prog 12 #[pgV p A c B d] w (GotT w (formedB p) (txPg p) 4000) := by
  have hb : Below w.heap.size w (w.alloc (.cells #[.slice A p.decls.length c, .slice B p.rules.length d] 25)) := (Below.refl _ _).alloc (Nat.le_refl _) _
  have HB := Lib.hid hb
  have HC := Lib.hid (text_prog p A c B d 4000 _ (by decide) (hV.below hb) (hS.below hb) (hK.below hb))
  clear hb hV hS hK
  generalize formedB p = rb at *
  generalize txPg p = X at *
  go_enter Tryz.func12, Tryz.ntmps12
  go_wp2_with fail
  refine HC.out.mono ?_
  rintro q W2 ⟨rfl, b2⟩
  have HF := Lib.hid (HB.out.trans (b2.mono HB.out.size))
  clear b2 HC HB
  go_wp2
  go_ret2
  exact ⟨rfl, HF.out⟩
end Go.Proofs.YtikohamfnnlhcaaGreatDoor
