/- A region that draws its order: what is done, and what that leads back to; reads and calls next to one new row. Conditions: none. -/
import Derived.Test.YtikohamfnnlhcaaGreatDoorPbShoR
import Derived.Test.YtikohamfnnlhcaaGreatDoorPbShoH
set_option linter.unusedVariables false
set_option linter.unusedSimpArgs false
namespace Go.Proofs.YtikohamfnnlhcaaGreatDoor
open Go.RowKit Go.Deep Go.Shelf

/-- what is done has all done that it waits for. -/
def Cl (ops : Array Oper) (d : Nat → Bool) : Prop := ∀ i o, ops[i]? = some o → d i = true → ∀ e ∈ o.after.toList, Region.binds .any e = true → d e.on = true
theorem wp_region_cl {P : Program} {ops : Array Oper} {Q : Exit → Act → World → Prop} {n : Nat} {J : Act → (Nat → Bool) → Act → World → Prop} {id : Nat} {a0 : Act} {w0 : World} (hm : P.follows .mixedOrders = true) (hsize : ops.size = n) (hac : ∀ (i : Nat) o, ops[i]? = some o → ∀ e ∈ o.after.toList, Region.binds .any e = true → e.on < i) (hg : ∀ (i : Nat) o, ops[i]? = some o → o.guard = none)
    (h0 : J a0 (fun _ => false) a0 w0.drew)
    (hstep : ∀ i o (d : Nat → Bool) a w, i < n → ops[i]? = some o → d i = false → (∀ e ∈ o.after.toList, Region.binds .any e = true → d e.on = true) → Cl ops d → J a0 d a w → ∀ K : Act → World → Prop, (∀ a' w', J a0 (fun k => if k = i then true else d k) a' w' → K a' w') → o.wp P a w K Q)
    (hend : ∀ (d : Nat → Bool) a w, (∀ k, k < n → d k = true) → J a0 d a w → Q .normal a w) : (Code.region id ops true).wp P Q a0 w0 := by
  refine wp_region_inv' (J := fun a0 d a w => J a0 d a w ∧ Cl ops d) hm hsize hac hg ⟨h0, fun i o _ h => by cases h⟩ (fun i o d a w hi ho hdi hdep hJ K hK => ?_) (fun d a w hall hJ => hend d a w hall hJ.1)
  refine hstep i o d a w hi ho hdi hdep hJ.2 hJ.1 K (fun a' w' h => hK a' w' ⟨h, fun k o' ho' hk e he hb => ?_⟩)
  by_cases hki : k = i
  · subst hki
    rw [ho] at ho'
    injection ho' with ho'
    subst ho'
    show (if e.on = k then true else d e.on) = true
    rw [hdep e he hb]
    split <;> rfl
  · have hk : d k = true := by simpa [hki] using hk
    show (if e.on = i then true else d e.on) = true
    rw [hJ.2 k o' ho' hk e he hb]
    split <;> rfl
/-- n operations that give values (one of them a new row in a block b), the last one of them laid into a slot that was read. -/
structure SJ (n ia sz : Nat) (D : Nat → Nat) (wr : World) (V : Nat → Nat → Value) (T : TypeId) (cs : List Value) (a0 : Act) (d : Nat → Bool) (a : Act) (b : Nat) (w : World) : Prop where
  tm : a.tmps.size = sz
  df : a.defers = a0.defers
  fr : ∀ t, (∀ k, k < n → d k = true → t ≠ D k) → a.tmps.getD t undef = a0.tmps.getD t undef
  low : Below wr.heap.size wr w
  got : ∀ k, k < n → d k = true → a.tmps.getD (D k) undef = V b k
  box : d ia = true → Own w b T cs
section
variable {n ia sz : Nat} {D : Nat → Nat} {wr : World} {V : Nat → Nat → Value} {T : TypeId} {cs : List Value} {a0 : Act} {d : Nat → Bool} {a : Act} {b : Nat} {w : World}
theorem SJ.start (hsz : a0.tmps.size = sz) (hw : Below wr.heap.size wr w) : SJ n ia sz D wr V T cs a0 (fun _ => false) a0 b w :=
  ⟨hsz, rfl, (fun _ _ => rfl), hw, (fun _ _ h => by cases h), (fun h => by cases h)⟩
theorem SJ.step (h : SJ n ia sz D wr V T cs a0 d a b w) (hD : ∀ i j, i < n → j < n → D i = D j → i = j) (hlt : ∀ k, k < n → D k < sz) {i : Nat} (hi : i < n) (hia : i ≠ ia) {v : Value} {w' : World} (hv : v = V b i) (hb : Below w.heap.size w w') : SJ n ia sz D wr V T cs a0 (upd d i) (a.put (some (D i)) v) b w' := by
  have hdl : D i < a.tmps.size := by rw [h.tm]; exact hlt i hi
  refine ⟨by simpa [Act.put] using h.tm, h.df, fun t ht => ?_, h.low.trans (hb.mono h.low.size), fun k hk hd => ?_, fun hd => ?_⟩
  · rw [getD_put hdl, if_neg (ht i hi upd_at)]
    refine h.fr t (fun k hk hd => ht k hk ?_)
    unfold upd
    rw [hd]
    split <;> rfl
  · by_cases e : k = i
    · subst e
      rw [getD_put hdl, if_pos rfl]
      exact hv
    · rw [getD_put hdl, if_neg fun z => e (hD k i hk hi z)]
      rw [upd_ne e] at hd
      exact h.got k hk hd
  · rw [upd_ne (fun e => hia e.symm)] at hd
    exact (h.box hd).below hb
theorem SJ.build (h : SJ n ia sz D wr V T cs a0 d a b w) (hD : ∀ i j, i < n → j < n → D i = D j → i = j) (hlt : ∀ k, k < n → D k < sz) (hi : ia < n) (hd : d ia = false) {v : Value} (hv : v = V w.heap.size ia) (hV : ∀ k, k < n → d k = true → V b k = V w.heap.size k) :
    SJ n ia sz D wr V T cs a0 (upd d ia) (a.put (some (D ia)) v) w.heap.size (w.alloc (.cells cs.toArray T)) := by
  have hdl : D ia < a.tmps.size := by rw [h.tm]; exact hlt ia hi
  have hb : Below w.heap.size w (w.alloc (.cells cs.toArray T)) := (Below.refl _ _).alloc (Nat.le_refl _) _
  refine ⟨by simpa [Act.put] using h.tm, h.df, fun t ht => ?_, h.low.trans (hb.mono h.low.size), fun k hk hdk => ?_, fun _ => heap_alloc_new _ _⟩
  · rw [getD_put hdl, if_neg (ht ia hi upd_at)]
    refine h.fr t (fun k hk hdk => ht k hk ?_)
    unfold upd
    rw [hdk]
    split <;> rfl
  · by_cases e : k = ia
    · subst e
      rw [getD_put hdl, if_pos rfl]
      exact hv
    · rw [getD_put hdl, if_neg fun z => e (hD k ia hk hi z)]
      rw [upd_ne e] at hdk
      rw [← hV k hk hdk]
      exact h.got k hk hdk
theorem SJ.cell (h : SJ n ia sz D wr V T cs a0 d a b w) {g k : Nat} {v : Value} (hc : wr.cell? ⟨g, k, none⟩ = some v) : w.cell? ⟨g, k, none⟩ = some v :=
  (h.low.cell (p := ⟨g, k, none⟩) (World.block_lt_of_cell? wr _ hc)).trans hc
end
section
variable {o : Oper} {a : Act} {w : World} {K : Act → World → Prop} {Q : Exit → Act → World → Prop}
theorem mk_load (ty : TypeId) (x : Operand) (ho : o.op = .load ty x) {b p : Nat} {v : Value} (hx : a.eval x = .pointer (some ⟨b, p, none⟩)) (hr : (loadVar ty ⟨b, p, none⟩).run Tryz.prog w = .ok v w)
    (hK : K (a.put o.dst v) w) : o.wp Tryz.prog a w K Q := by
  refine mk_val (v := v) (w' := w) ?_ hK
  unfold execOp
  simp only [ho, hx, Instr.loadAt, Instr.sureAddr, Sem.run_bind, Sem.run_pure, Result.andThen_ok, hr]
theorem mk_cat (x y : Operand) (ty : TypeId) (ho : o.op = .binOp .add 9 x y ty) {s t : ByteArray} (hx : a.eval x = .string s) (hy : a.eval y = .string t) (hl : s.size + t.size ≤ 9223372036854775807)
    (hK : K (a.put o.dst (.string (s ++ t))) w) : o.wp Tryz.prog a w K Q := by
  have hr : (binOp .add 9 (.string s) (.string t)).run Tryz.prog w = .ok (.string (s ++ t)) w := by
    go_simp <;> omega
  refine mk_val (v := .string (s ++ t)) (w' := w) ?_ hK
  unfold execOp
  simp only [ho, hx, hy, eqGuard, Sem.run_bind, Sem.run_pure, Result.andThen_ok]
  simp [hr]
theorem mk_index (ty : TypeId) (x y : Operand) (ho : o.op = .indexAddr ty x y) {v i p : Value} (hx : a.eval x = v) (hy : a.eval y = i) (hr : (Instr.indexAt ty v i).run Tryz.prog w = .ok p w)
    (hK : K (a.put o.dst p) w) : o.wp Tryz.prog a w K Q := by
  refine mk_val (v := p) (w' := w) ?_ hK
  unfold execOp
  simp only [ho, hx, hy, Sem.run_bind, Sem.run_pure, hr, Result.andThen_ok]
end
end Go.Proofs.YtikohamfnnlhcaaGreatDoor
