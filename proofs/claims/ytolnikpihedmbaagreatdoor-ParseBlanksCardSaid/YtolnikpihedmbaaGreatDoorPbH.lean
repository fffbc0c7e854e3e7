/- The terms of an expression behind others, by the program and by the document. Conditions: lists of at most 100,000 terms. Join: the tokens' texts with blanks between; the chapter's example. Conditions: lex's two tables and strconv's variables as they are laid. The document's side: bytes, words, lists of texts. Conditions: texts of at most Go's longest. The document's side: which kind a word is; which sign a text begins with. Conditions: texts of at most Go's longest. The document's list of tokens. Conditions: texts of at most 10000 bytes. The document's list of tokens: its walk. Conditions: texts of at most 10000 bytes. The terms of an expression behind others, by the document. Conditions: lists of at most 100,000 terms. An expression copied into new memory: what is kept of it, and where it lies. Conditions: none. The law's copy of an expression in the document's form. Conditions: at most 30,000 nodes. The document's sole token of a text. Conditions: texts of at most 4,000 bytes. Lists copied into new memory: what is kept of each element, and where it lies. Conditions: none. -/
import Derived.Test.YtolnikpihedmbaaGreatDoorPbTermH
import Derived.Maps.AppendAt
import Derived.Laws.AppendOwnNone
import Derived.OwnWalk
import Derived.Test.YtolnikpihedmbaaGreatDoorPbF
import Derived.Test.YtolnikpihedmbaaGreatDoorPbB
import Derived.Lib.IndexBytes
import Derived.Test.YtolnikpihedmbaaGreatDoorPbG
import Derived.Deep.RegionLaw
set_option linter.unusedVariables false
set_option linter.unusedSimpArgs false
namespace Go.Proofs.YtolnikpihedmbaaGreatDoor
open Go.RowKit Go.Deep Go.Shelf

/-- terms as cells. -/
def flatM : List TTm → List Value
  | [] => []
  | t :: r => .string t.v :: .int .i64 t.k :: .int .i64 t.n :: .string t.s :: flatM r
theorem flatM_at : ∀ (l : List TTm) (i : Nat) (x : TTm), l[i]? = some x → (flatM l)[i * 4]? = some (.string x.v) ∧ (flatM l)[i * 4 + 1]? = some (.int .i64 x.k) ∧ (flatM l)[i * 4 + 2]? = some (.int .i64 x.n) ∧ (flatM l)[i * 4 + 3]? = some (.string x.s)
  | t :: r, 0, x, h => by
    simp only [List.getElem?_cons_zero, Option.some.injEq] at h
    subst h
    exact ⟨rfl, rfl, rfl, rfl⟩
  | t :: r, i + 1, x, h => by
    simp only [List.getElem?_cons_succ] at h
    have ih := flatM_at r i x h
    have e : ∀ k, (flatM (t :: r))[(i + 1) * 4 + k]? = (flatM r)[i * 4 + k]? := fun k => by
      rw [show (i + 1) * 4 + k = (i * 4 + k) + 1 + 1 + 1 + 1 by omega]
      simp only [flatM, List.getElem?_cons_succ]
    exact ⟨(e 0).trans ih.1, (e 1).trans ih.2.1, (e 2).trans ih.2.2.1, (e 3).trans ih.2.2.2⟩
theorem own_valueM {w : World} {base n k : Nat} {e : TypeId} {v : Value} {xs : List Value} (h : w.ownsRow base e k v n xs) : ∃ A c, v = .slice A n c ∧ (A = none → c = 0) ∧ ∀ g, v.ownBlock = some g → base ≤ g := by
  rcases h.2 with ⟨h1, h2⟩ | ⟨g, cap, cur, h1, hg, _⟩
  · exact ⟨none, 0, by rw [h1, h2], (fun _ => rfl), fun g hg => by rw [h1] at hg; cases hg⟩
  · refine ⟨_, cap, h1, (fun h => by cases h), fun g' hg' => ?_⟩
    rw [h1] at hg'
    simp [Value.ownBlock] at hg'
    omega
/-- an own row of terms, read. -/
theorem Rg.own {w : World} {base : Nat} {e : TypeId} {A : Option Addr} {c : Nat} {l : List TTm} (h : w.ownsRow base e 4 (.slice A l.length c) l.length (flatM l)) (hok : ∀ t ∈ l, okTm t) (hl : l.length ≤ 100000) : Rg 4 TmC w A l := by
  refine ⟨by omega, fun h0 => ?_⟩
  rcases h.2 with ⟨h1, h2⟩ | ⟨g, cap, cur, h1, hg, hc, hcap, _, hcs, htake⟩
  · omega
  · injection h1 with h1 _ _
    subst h1
    refine ⟨g, 0, rfl, (Array.getElem?_eq_some_iff.1 hc).1, fun i y hy => ?_⟩
    have hcell : ∀ (j : Nat) u, (flatM l)[j]? = some u → w.cell? ⟨g, j, none⟩ = some u := fun j u hu => by
      rw [cell_of_row w g j cur e (0, 0) hc]
      rw [← htake, List.getElem?_take] at hu
      split at hu
      · simpa using hu
      · cases hu
    obtain ⟨f0, f1, f2, f3⟩ := flatM_at l i y hy
    rw [Nat.zero_add]
    exact ⟨hcell _ _ f0, hcell _ _ f1, hcell _ _ f2, hcell _ _ f3, hok y (List.mem_of_getElem? hy)⟩
end Go.Proofs.YtolnikpihedmbaaGreatDoor

namespace Go.Proofs.YtolnikpihedmbaaGreatDoor
open Go.RowKit Go.Deep Go.Shelf

theorem TRow.at_ {w : World} {A : Option Addr} {L : List Tk} (h : TRow w A L) {k : Nat} (hk : k < L.length) :
    ∃ b o, A = some ⟨b, o, none⟩ ∧ b < w.heap.size ∧ w.cell? ⟨b, o + k * 3, none⟩ = some (.int .i64 (L[k].1 : Int)) ∧ w.cell? ⟨b, o + k * 3 + 1, none⟩ = some (.string (bts L[k].2.1)) ∧ w.cell? ⟨b, o + k * 3 + 2, none⟩ = some (.int .i64 (L[k].2.2 : Int)) := by
  obtain ⟨b, o, h1, h2, h3⟩ := h (by omega)
  exact ⟨b, o, h1, h2, h3 k _ (List.getElem?_eq_getElem hk)⟩
end Go.Proofs.YtolnikpihedmbaaGreatDoor

namespace Go.Proofs.YtolnikpihedmbaaGreatDoor
open Go.RowKit Go.Deep Go.Shelf

end Go.Proofs.YtolnikpihedmbaaGreatDoor

namespace Go.Proofs.YtolnikpihedmbaaGreatDoor
open Go.RowKit Go.Deep Go.Shelf

end Go.Proofs.YtolnikpihedmbaaGreatDoor

namespace Go.Proofs.YtolnikpihedmbaaGreatDoor
open Go.RowKit Go.Deep Go.Shelf

/-- the list, between two rounds at offset o. -/
def RfA (w : World) (s : ByteArray) (R : List Tk × Option Nat) (o : Nat) (pre : List Tk) (G : List Nat) (v : Value) (W : World) : Prop :=
  TArr 44 W v pre G ∧ (∀ g ∈ G, w.heap.size ≤ g) ∧ Below w.heap.size w W ∧ pre ++ (lexA kindW o (s.data.toList.drop o)).1 = R.1 ∧ (lexA kindW o (s.data.toList.drop o)).2 = R.2 ∧ pre.length ≤ o
def RfI (w : World) (s : ByteArray) (R : List Tk × Option Nat) (o : Nat) (v : Value) (W : World) : Prop := ∃ pre G, RfA w s R o pre G v W
theorem RfA.below {w : World} {s : ByteArray} {R : List Tk × Option Nat} {o : Nat} {pre : List Tk} {G : List Nat} {v : Value} {W W' : World} (h : RfA w s R o pre G v W) (hb : Below W.heap.size W W') : RfA w s R o pre G v W' := by
  obtain ⟨h1, h2, h3, h4⟩ := h
  exact ⟨h1.kept (Kept.of [] hb) (fun _ _ h => by cases h), h2, h3.trans (hb.mono h3.size), h4⟩
theorem RfA.push {w : World} {s : ByteArray} {R : List Tk × Option Nat} {o q n g cap : Nat} {t : List UInt8} {pre : List Tk} {G : List Nat} {v : Value} {W w1 : World} {tmp : Obj} (h : RfA w s R o pre G v W)
    (h0 : skipN false (s.data.toList.drop o) = 0) (hn : s.data.toList.drop o ≠ []) (ht : tokOf kindW (s.data.toList.drop o) = some (q, t))
    (ho : w1.ownsRow 0 44 3 (.slice (some ⟨g, 0, none⟩) n cap) n (flatT pre ++ tkC (q, t, o))) (hg : (W.alloc tmp).grownBy w1 v.ownBlock) (hat : (Value.slice (some ⟨g, 0, none⟩) n cap).ownBlock = v.ownBlock ∨ (Value.slice (some ⟨g, 0, none⟩) n cap).ownBlock = some (W.alloc tmp).heap.size) :
    RfI w s R (o + t.length) (.slice (some ⟨g, 0, none⟩) n cap) w1 := by
  obtain ⟨h1, h2, h3, h4, h5, h6⟩ := h
  have hbl := h1.block
  have kw1 : Kept G W w1 := ((Kept.refl G W).alloc tmp).trans (Kept.grown hg hbl) (fun k hk => .inl hk)
  rw [lexA_tok (by rw [h0]; exact hn) (by rw [h0]; exact ht), h0] at h4 h5
  simp only [Nat.add_zero, List.drop_drop] at h4 h5
  have htl := (tok_text ht).1
  have hl0 : 0 < t.length := List.length_pos_iff.2 htl
  refine ⟨pre ++ [(q, t, o)], [g], TArr.of_owns (by rw [flatT_snoc]; exact ho), fun k hk => ?_, h3.trans (kw1.below h3.size h2), by rw [List.append_assoc]; exact h4, h5, by simp; omega⟩
  simp only [List.mem_singleton] at hk
  subst hk
  rcases hat with h | h
  · exact h2 _ (hbl _ h.symm)
  · injection h with h
    have := h3.size
    simp at h
    omega
/-- what List answers, the document's. -/
def RlPost (w : World) (R : List Tk × Option Nat) (e : Ending) (w' : World) : Prop :=
  ∃ A c, e = .returned (.tuple #[.slice A R.1.length c, .int .i64 (match R.2 with | none => -1 | some p => (p : Int))]) ∧ TRow w' A R.1 ∧ Below w.heap.size w w'
theorem RfA.fin {w : World} {s : ByteArray} {R : List Tk × Option Nat} {o : Nat} {pre : List Tk} {G : List Nat} {v : Value} {W : World} (h : RfA w s R o pre G v W) (he : s.data.toList.drop o = []) :
    RlPost w R (.returned (.tuple #[v, .int .i64 (-1)])) W := by
  obtain ⟨h1, h2, h3, h4, h5, h6⟩ := h
  rw [he, lexA_end rfl] at h4 h5
  simp only [List.append_nil] at h4 h5
  obtain ⟨A, c, rfl, _, hr⟩ := h1.row
  rw [h4] at hr
  exact ⟨A, c, by rw [← h5, h4], hr, h3⟩
end Go.Proofs.YtolnikpihedmbaaGreatDoor

namespace Go.Proofs.YtolnikpihedmbaaGreatDoor
open Go.RowKit Go.Deep Go.Shelf

end Go.Proofs.YtolnikpihedmbaaGreatDoor

set_option linter.unusedVariables false
set_option linter.unusedSimpArgs false
namespace Go.Proofs.YtolnikpihedmbaaGreatDoor
open Go.RowKit Go.Deep Go.Shelf

end Go.Proofs.YtolnikpihedmbaaGreatDoor

set_option linter.unusedVariables false
set_option linter.unusedSimpArgs false
namespace Go.Proofs.YtolnikpihedmbaaGreatDoor
open Go.RowKit Go.Deep Go.Shelf

/-- an expression in memory, in such blocks alone. -/
inductive ExP (w : World) (P : Nat → Prop) : Nat → Nat → TEx → Prop where
  | mk {b o : Nat} {op : Int} {t : TTm} {ks : List TEx} {A : Option Addr} {c : Nat} (bA oA : Nat) (hb : P b) (hbw : b < w.heap.size) (h0 : w.cell? ⟨b, o, none⟩ = some (.int .i64 op)) (h1 : TmC w b (o + 1) t) (h5 : w.cell? ⟨b, o + 5, none⟩ = some (.slice A ks.length c))
      (hl : ks.length ≤ 140737488351232) (hA : 0 < ks.length → A = some ⟨bA, oA, none⟩ ∧ bA < w.heap.size) (hk : ∀ i y, ks[i]? = some y → ExP w P bA (oA + i * 6) y) : ExP w P b o (.mk op t ks)
theorem ExP.exC {w : World} {P : Nat → Prop} {b o : Nat} {e : TEx} (h : ExP w P b o e) : ExC w b o e := by
  induction h with
  | mk bA oA hb hbw h0 h1 h5 hl hA hk ih => exact .mk bA oA h0 h1 h5 hl hA ih
theorem ExP.keep {w w' : World} {P P' : Nat → Prop} (hk : ∀ k, k < w.heap.size → P k → w'.heap[k]? = w.heap[k]?) (hs : w.heap.size ≤ w'.heap.size) (hP : ∀ k, k < w.heap.size → P k → P' k) {b o : Nat} {e : TEx} (h : ExP w P b o e) : ExP w' P' b o e := by
  induction h with
  | mk bA oA hb hbw h0 h1 h5 hl hA _ ih =>
    have hc : ∀ i v, w.cell? ⟨_, i, none⟩ = some v → w'.cell? ⟨_, i, none⟩ = some v := fun i v hv => (World.cell?_of_block (hk _ hbw hb)).trans hv
    exact .mk bA oA (hP _ hbw hb) (Nat.lt_of_lt_of_le hbw hs) (hc _ _ h0) ⟨hc _ _ h1.1, hc _ _ h1.2.1, hc _ _ h1.2.2.1, hc _ _ h1.2.2.2.1, h1.2.2.2.2⟩ (hc _ _ h5) hl (fun h => ⟨(hA h).1, Nat.lt_of_lt_of_le (hA h).2 hs⟩) ih
/-- an expression's value, its children in such blocks alone. -/
structure ExVP (w : World) (P : Nat → Prop) (e : TEx) (A : Option Addr) : Prop where
  ok : okTm e.t
  row : Rg 6 (fun w => ExP w P) w A e.kids
theorem ExVP.exV {w : World} {P : Nat → Prop} {e : TEx} {A : Option Addr} (h : ExVP w P e A) : ExV w e A :=
  ⟨h.ok, h.row.1, fun h0 => by obtain ⟨b, o, h1, h2, h3⟩ := h.row.2 h0; exact ⟨b, o, h1, h2, fun i y hy => (h3 i y hy).exC⟩⟩
theorem ExVP.keep {w w' : World} {P P' : Nat → Prop} (hk : ∀ k, k < w.heap.size → P k → w'.heap[k]? = w.heap[k]?) (hs : w.heap.size ≤ w'.heap.size) (hP : ∀ k, k < w.heap.size → P k → P' k) {e : TEx} {A : Option Addr} (h : ExVP w P e A) : ExVP w' P' e A :=
  ⟨h.ok, h.row.1, fun h0 => by obtain ⟨b, o, h1, h2, h3⟩ := h.row.2 h0; exact ⟨b, o, h1, Nat.lt_of_lt_of_le h2 hs, fun i y hy => (h3 i y hy).keep hk hs hP⟩⟩

end Go.Proofs.YtolnikpihedmbaaGreatDoor

set_option linter.unusedVariables false
set_option linter.unusedSimpArgs false
namespace Go.Proofs.YtolnikpihedmbaaGreatDoor
open Go.RowKit Go.Deep Go.Shelf

theorem step_run {P : Program} {ops : Array Oper} {o : Oper} {a : Act} {w : World} {K : Act → World → Prop} {Q : Exit → Act → World → Prop} {E : Prop}
    (hg : o.guard = none) (s x : Operand) (t : TypeId) (hop : o.op = Op.call { callee := Callee.builtin Builtin.append, args := #[s, x], argTypes := #[t, t] }) (hty : o.type = t)
    (vs vx : Value) (hs : a.eval s = vs) (hx : a.eval x = vx) {v' : Value} {w' : World} (hrun : (Builtin.append_ #[t, t] t #[vs, vx]).run P w = .ok v' w') (hK : K (a.put o.dst v') w') :
    if Region.wanted o (yielded ops a.tmps) = true then Oper.wp P o a w K Q else E := by
  have hw : Region.wanted o (yielded ops a.tmps) = true := by simp [Region.wanted, hg]
  rw [if_pos hw]
  unfold Oper.wp
  simp [execOp, hop, hty, resolve, invoke, builtin, hs, hx, hrun, Result.andThen]
  exact hK
theorem step_call {P : Program} {ops : Array Oper} {o : Oper} {a : Act} {w : World} {K : Act → World → Prop} {Q : Exit → Act → World → Prop} {E : Prop}
    (hg : o.guard = none) {f : FuncId} {args : Array Value} (h : (execOp a.eval o).run P w = .ok (.enter f args) w) (hc : Calls P f args w fun e w' => ∃ v, e = .returned v ∧ K (a.put o.dst v) w') :
    if Region.wanted o (yielded ops a.tmps) = true then Oper.wp P o a w K Q else E := by
  have hw : Region.wanted o (yielded ops a.tmps) = true := by simp [Region.wanted, hg]
  rw [if_pos hw]
  unfold Oper.wp
  rw [h]
  refine hc.mono ?_
  rintro e w' ⟨v, rfl, hk⟩
  exact hk
theorem owns_off {w w' : World} {S : List Nat} {base n k : Nat} {e : TypeId} {v : Value} {xs : List Value} (h : w.ownsRow base e k v n xs) (hk : Kept S w w') (hS : ∀ j ∈ S, j < base) : w'.ownsRow base e k v n xs :=
  ⟨h.1, h.2.imp id fun ⟨g, cap, cur, h1, h2, h3, h4⟩ => ⟨g, cap, cur, h1, h2, (hk.block g (Array.getElem?_eq_some_iff.1 h3).1 (fun hm => by have := hS g hm; omega)).trans h3, h4⟩⟩
theorem ExP.shut {w : World} {P : Nat → Prop} {b o c : Nat} {e : TEx} {A : Option Addr} (hb : P b) (hbw : b < w.heap.size) (h0 : w.cell? ⟨b, o, none⟩ = some (.int .i64 e.op)) (h1 : w.cell? ⟨b, o + 1, none⟩ = some (.string e.t.v)) (h2 : w.cell? ⟨b, o + 2, none⟩ = some (.int .i64 e.t.k))
    (h3 : w.cell? ⟨b, o + 3, none⟩ = some (.int .i64 e.t.n)) (h4 : w.cell? ⟨b, o + 4, none⟩ = some (.string e.t.s)) (h5 : w.cell? ⟨b, o + 5, none⟩ = some (.slice A e.kids.length c)) (hV : ExVP w P e A) : ExP w P b o e := by
  cases e with
  | mk op t ks =>
    obtain ⟨ho, hl, hr⟩ := hV
    by_cases hk : 0 < ks.length
    · obtain ⟨b', o', e1, e2, e3⟩ := hr hk
      exact .mk b' o' hb hbw h0 ⟨h1, h2, h3, h4, ho⟩ h5 hl (fun _ => ⟨e1, e2⟩) e3
    · refine .mk 0 0 hb hbw h0 ⟨h1, h2, h3, h4, ho⟩ h5 hl (fun h => absurd h hk) fun i y hy => ?_
      have : ks = [] := List.eq_nil_of_length_eq_zero (by omega)
      subst this
      cases hy
end Go.Proofs.YtolnikpihedmbaaGreatDoor

set_option linter.unusedVariables false
set_option linter.unusedSimpArgs false
namespace Go.Proofs.YtolnikpihedmbaaGreatDoor
open Go.RowKit Go.Deep Go.Shelf

end Go.Proofs.YtolnikpihedmbaaGreatDoor

set_option linter.unusedVariables false
set_option linter.unusedSimpArgs false
namespace Go.Proofs.YtolnikpihedmbaaGreatDoor
open Go.RowKit Go.Deep Go.Shelf

/-- a fact that stays while such blocks stay. -/
def Stab (w : World) (P : Nat → Prop) (F : World → Prop) : Prop := ∀ w', w.heap.size ≤ w'.heap.size → (∀ k, k < w.heap.size → P k → w'.heap[k]? = w.heap[k]?) → F w'
section
variable {w w' : World} {P P' : Nat → Prop} {F G : World → Prop}
theorem Stab.here (h : Stab w P F) : F w := h w (Nat.le_refl _) (fun _ _ _ => rfl)
theorem Stab.keep (h : Stab w P F) (hs : w.heap.size ≤ w'.heap.size) (hk : ∀ k, k < w.heap.size → P k → w'.heap[k]? = w.heap[k]?) (hP : ∀ k, k < w.heap.size → P k → P' k) : Stab w' P' F :=
  fun w2 h2 hk2 => h w2 (Nat.le_trans hs h2) (fun k hkw hp => (hk2 k (Nat.lt_of_lt_of_le hkw hs) (hP k hkw hp)).trans (hk k hkw hp))
theorem Stab.below (h : Stab w P F) (hb : Below w.heap.size w w') : Stab w' P F := h.keep hb.size (fun k hk _ => hb.block k hk) (fun _ _ h => h)
theorem Stab.more (h : Stab w P F) (hP : ∀ k, k < w.heap.size → P k → P' k) : Stab w P' F := h.keep (Nat.le_refl _) (fun _ _ _ => rfl) hP
theorem Stab.imp (h : Stab w P F) (hi : ∀ W, F W → G W) : Stab w P G := fun w' h1 h2 => hi _ (h w' h1 h2)
theorem Stab.and (h : Stab w P F) (h' : Stab w P G) : Stab w P (fun W => F W ∧ G W) := fun w' h1 h2 => ⟨h w' h1 h2, h' w' h1 h2⟩
/-- what stays whatever is made. -/
theorem Stab.old {n : Nat} (hF : ∀ W, Pers w W → F W) : Stab w (fun k => k < w.heap.size) F := fun w' h1 h2 =>
  hF w' ⟨h1, fun p v hp => by
    have hb := World.block_lt_of_cell? w p hp
    exact (World.cell?_of_block (w := w) (h2 p.block hb hb)).trans hp⟩
end
/-- a row of the call's own: the cells of its elements, and what is known of each. -/
structure GR {α : Type} (K : Nat) (E : TypeId) (F : World → List Value → α → Prop) (B0 base : Nat) (v : Value) (xs : List α) (css : List (List Value)) (W : World) : Prop where
  own : W.ownsRow base E K v xs.length css.flatten
  len : css.length = xs.length
  each : ∀ cs ∈ css, cs.length = K
  fact : ∀ (i : Nat) x cs, xs[i]? = some x → css[i]? = some cs → Stab W (fun k => (k < B0 ∨ base ≤ k) ∧ some k ≠ v.ownBlock) (fun W => F W cs x)
theorem flat_at {K : Nat} : ∀ (css : List (List Value)), (∀ cs ∈ css, cs.length = K) → ∀ (i : Nat) cs, css[i]? = some cs → ∀ j, j < K → css.flatten[i * K + j]? = cs[j]?
  | [], _, i, cs, h, _, _ => by cases h
  | c :: r, hK, 0, cs, h, j, hj => by
    simp only [List.getElem?_cons_zero, Option.some.injEq] at h
    subst h
    rw [List.flatten_cons, Nat.zero_mul, Nat.zero_add]
    exact List.getElem?_append_left (by rw [hK c (by simp)]; exact hj)
  | c :: r, hK, i + 1, cs, h, j, hj => by
    simp only [List.getElem?_cons_succ] at h
    have hc := hK c (by simp)
    rw [← flat_at r (fun x hx => hK x (by simp [hx])) i cs h j hj, List.flatten_cons, List.getElem?_append_right (by rw [hc, Nat.add_mul]; omega), hc]
    congr 1
    rw [Nat.add_mul]
    omega
section
variable {α : Type} {K : Nat} {E : TypeId} {F : World → List Value → α → Prop} {B0 base : Nat} {v : Value} {xs : List α} {css : List (List Value)} {W W' : World}
theorem GR.nil (W : World) : GR K E F B0 base (.slice none 0 0) [] [] W := ⟨World.ownsRow_nil _ _ _ _, rfl, (fun cs h => by cases h), (fun i x cs h => by cases h)⟩
theorem GR.kept {S : List Nat} (h : GR K E F B0 base v xs css W) (hk : Kept S W W') (hS : ∀ k ∈ S, B0 ≤ k ∧ k < base) : GR K E F B0 base v xs css W' :=
  ⟨owns_off h.own hk (fun k hs => (hS k hs).2), h.len, h.each, fun i x cs h1 h2 => (h.fact i x cs h1 h2).keep hk.size (fun k hkw hp => hk.block k hkw (fun hs => by have := hS k hs; have := hp.1; omega)) (fun _ _ h => h)⟩
theorem GR.below (h : GR K E F B0 base v xs css W) (hb : Below W.heap.size W W') : GR K E F B0 base v xs css W' := h.kept (Kept.of [] hb) (fun _ h => by cases h)
theorem GR.lt (h : GR K E F B0 base v xs css W) : ∀ k, v.ownBlock = some k → base ≤ k ∧ k < W.heap.size := h.own.lt
theorem GR.val (h : GR K E F B0 base v xs css W) : ∃ A c, v = .slice A xs.length c := by
  obtain ⟨A, c, h1, _⟩ := own_valueM h.own
  exact ⟨A, c, h1⟩
theorem GR.app {P : Program} {S : TypeId} (h : GR K E F B0 base v xs css W) (hu : P.underlying S = some (.slice E)) {z : Value} {bytes : Nat} (hi : (P.info? E).map (fun i => (i.zero, i.size, i.bytes)) = some (some z, K, bytes)) (hzs : z.cells.size = K) (hK : 0 < K)
    (x : α) (cs : List Value) (hcl : cs.length = K) (h1 : ∀ u ∈ cs, u.oneCell' = true) {b : Nat} {T : TypeId} (hO : Own W b T cs) (hx : Stab W (fun k => (k < B0 ∨ base ≤ k) ∧ some k ≠ v.ownBlock) (fun W => F W cs x))
    (hlen : xs.length ≤ 100000) (hby : bytes ≤ 1000) (hbase : base ≤ W.heap.size) :
    ∃ v' w', (Builtin.append_ #[S, S] S #[v, .slice (some ⟨b, 0, none⟩) 1 1]).run P W = .ok v' w' ∧ GR K E F B0 base v' (xs ++ [x]) (css ++ [cs]) w' ∧ W.grownBy w' v.ownBlock ∧ (v'.ownBlock = v.ownBlock ∨ v'.ownBlock = some W.heap.size) := by
  obtain ⟨i, hi, hz, hs1, hb⟩ := info_parts hi
  have hcells : ∀ j u, cs[j]? = some u → W.cell? ((⟨b, 0, none⟩ : Addr).add j) = some u := fun j u hu => by
    rw [Addr.add_lit, Nat.zero_add, hO.cell]
    exact hu
  have hbb : (xs.length + 1) * bytes ≤ 140737488355328 := Nat.le_trans (Nat.mul_le_mul (by omega : xs.length + 1 ≤ 100001) hby) (by decide)
  obtain ⟨v', w', g1, g2, g3, _, g5⟩ := run_append_own_at (P := P) W base S S E i z K bytes hu hi hz hs1 hb hzs hK v xs.length css.flatten h.own ⟨b, 0, none⟩ 1 1 cs (by omega) hcells h1 (by unfold maxLen; omega) hbb hbase
  have hP : ∀ k, k < W.heap.size → ((k < B0 ∨ base ≤ k) ∧ some k ≠ v.ownBlock) → ((k < B0 ∨ base ≤ k) ∧ some k ≠ v'.ownBlock) := fun k hk hp => ⟨hp.1, fun e => by
    rcases g5 with h5 | h5
    · rw [h5] at e; exact hp.2 e
    · rw [h5] at e; injection e with e; omega⟩
  refine ⟨v', w', g1, ⟨?_, by simp [h.len], ?_, ?_⟩, g3, g5⟩
  · rw [List.length_append, List.flatten_append, List.flatten_singleton]
    exact g2
  · intro c hc
    rcases List.mem_append.1 hc with hc | hc
    · exact h.each c hc
    · simp only [List.mem_singleton] at hc
      subst hc
      exact hcl
  · intro i y c h2 h3
    by_cases hi : i < xs.length
    · rw [List.getElem?_append_left hi] at h2
      rw [List.getElem?_append_left (by rw [h.len]; exact hi)] at h3
      exact (h.fact i y c h2 h3).keep g3.size (fun k hk hp => g3.block k hk hp.2) hP
    · rw [List.getElem?_append_right (by omega)] at h2
      rw [List.getElem?_append_right (by rw [h.len]; omega)] at h3
      have hlt := (List.getElem?_eq_some_iff.1 h2).1
      have h0 : i - xs.length = 0 := by simp at hlt; omega
      have h0' : i - css.length = 0 := by rw [h.len]; exact h0
      rw [h0] at h2
      rw [h0'] at h3
      simp only [List.getElem?_cons_zero, Option.some.injEq] at h2 h3
      subst h2 h3
      exact hx.keep g3.size (fun k hk hp => g3.block k hk hp.2) hP
/-- the row, told as any row. -/
theorem GR.rg {Q : World → Nat → Nat → α → Prop} {A : Option Addr} {c n : Nat} (h : GR K E F B0 base (.slice A n c) xs css W) (hn : n = xs.length)
    (hQ : ∀ (W : World) b o x cs, cs.length = K → (∀ (j : Nat) u, cs[j]? = some u → W.cell? ⟨b, o + j, none⟩ = some u) → F W cs x → Q W b o x) (hl : xs.length ≤ 140737488351232) :
    Stab W (fun k => k < B0 ∨ base ≤ k) (fun W => Rg K Q W A xs) := by
  subst hn
  intro w' hs hk
  refine ⟨hl, fun h0 => ?_⟩
  rcases h.own.2 with ⟨_, h2⟩ | ⟨g, cap, cur, h1, hg, hc, hcap, _, hcs, htake⟩
  · omega
  · injection h1 with h1 _ _
    subst h1
    have hgw : g < W.heap.size := (Array.getElem?_eq_some_iff.1 hc).1
    have hg' := hk g hgw (.inr hg)
    refine ⟨g, 0, rfl, Nat.lt_of_lt_of_le hgw hs, fun i y hy => ?_⟩
    have hil := (List.getElem?_eq_some_iff.1 hy).1
    have hcl : i < css.length := by rw [h.len]; exact hil
    have hci := List.getElem?_eq_getElem hcl
    have hK := h.each _ (List.getElem_mem hcl)
    refine hQ w' g (0 + i * K) y css[i] hK (fun j u hu => ?_) (h.fact i y _ hy hci w' hs (fun k hkw hp => hk k hkw hp.1))
    have hj : j < K := by have := (List.getElem?_eq_some_iff.1 hu).1; omega
    have e1 : w'.cell? ⟨g, 0 + i * K + j, none⟩ = W.cell? ⟨g, 0 + i * K + j, none⟩ := World.cell?_of_block (w := W) hg'
    have hle : i * K + j < xs.length * K := by
      have : (i + 1) * K ≤ xs.length * K := Nat.mul_le_mul_right K hil
      rw [Nat.add_mul] at this
      omega
    rw [e1, cell_of_row W g _ cur _ (0, 0) hc, ← hu, ← flat_at css h.each i _ hci j hj, ← htake, List.getElem?_take, if_pos hle, Nat.zero_add]
    simp
end
/-- what is known of the cells of each kind of thing. -/
def FTm (_ : World) (cs : List Value) (t : TTm) : Prop := cs = [.string t.v, .int .i64 t.k, .int .i64 t.n, .string t.s] ∧ okTm t
def ltL (x : TLt) (A : Option Addr) (c : Nat) (L : Option Addr) (d : Nat) (R : Option Addr) (f : Nat) : List Value :=
  [.int .i64 x.kind, .string x.atom.rel, .slice A x.atom.args.length c, .int .i64 x.op, .int .i64 x.left.op, .string x.left.t.v, .int .i64 x.left.t.k, .int .i64 x.left.t.n, .string x.left.t.s, .slice L x.left.kids.length d,
    .int .i64 x.right.op, .string x.right.t.v, .int .i64 x.right.t.k, .int .i64 x.right.t.n, .string x.right.t.s, .slice R x.right.kids.length f, .int .i64 x.pos]
def FLt (w : World) (cs : List Value) (x : TLt) : Prop := ∃ A c L d R f, cs = ltL x A c L d R f ∧ LtV w x A L R
def FRu (w : World) (cs : List Value) (r : TRu) : Prop := ∃ A c B d, cs = [.string r.head.rel, .slice A r.head.args.length c, .int .i64 r.agg, .int .i64 r.col, .slice B r.body.length d, .int .i64 r.pos] ∧ RuV w r A B
def FDe (w : World) (cs : List Value) (d : TDe) : Prop := ∃ A c, cs = [.string d.rel, .slice A d.kinds.length c, .int .i64 d.pos] ∧ Rg 1 IntC w A d.kinds ∧ d.rel.size ≤ 140737488351232
theorem FTm.c (W : World) (b o : Nat) (x : TTm) (cs : List Value) (_ : cs.length = 4) (h : ∀ (j : Nat) u, cs[j]? = some u → W.cell? ⟨b, o + j, none⟩ = some u) (hF : FTm W cs x) : TmC W b o x := by
  obtain ⟨rfl, ho⟩ := hF
  exact ⟨h 0 _ rfl, h 1 _ rfl, h 2 _ rfl, h 3 _ rfl, ho⟩
theorem FLt.c (W : World) (b o : Nat) (x : TLt) (cs : List Value) (_ : cs.length = 17) (h : ∀ (j : Nat) u, cs[j]? = some u → W.cell? ⟨b, o + j, none⟩ = some u) (hF : FLt W cs x) : LtC W b o x := by
  obtain ⟨A, c, L, d, R, f, rfl, hV⟩ := hF
  exact LtC.shut (A := A) (c := c) (L := L) (d := d) (R := R) (f := f) ⟨h 0 _ rfl, h 1 _ rfl, h 2 _ rfl, h 3 _ rfl, ⟨h 4 _ rfl, h 5 _ rfl, h 6 _ rfl, h 7 _ rfl, h 8 _ rfl, h 9 _ rfl⟩, ⟨h 10 _ rfl, h 11 _ rfl, h 12 _ rfl, h 13 _ rfl, h 14 _ rfl, h 15 _ rfl⟩, h 16 _ rfl⟩ hV
theorem FRu.c (W : World) (b o : Nat) (x : TRu) (cs : List Value) (_ : cs.length = 6) (h : ∀ (j : Nat) u, cs[j]? = some u → W.cell? ⟨b, o + j, none⟩ = some u) (hF : FRu W cs x) : RuC W b o x := by
  obtain ⟨A, c, B, d, rfl, hV⟩ := hF
  exact RuC.shut (h 0 _ rfl) (h 1 _ rfl) (h 2 _ rfl) (h 3 _ rfl) (h 4 _ rfl) (h 5 _ rfl) hV
theorem FDe.c (W : World) (b o : Nat) (x : TDe) (cs : List Value) (_ : cs.length = 3) (h : ∀ (j : Nat) u, cs[j]? = some u → W.cell? ⟨b, o + j, none⟩ = some u) (hF : FDe W cs x) : DeC W b o x := by
  obtain ⟨A, c, rfl, hR, hl⟩ := hF
  exact ⟨h 0 _ rfl, ⟨A, c, h 1 _ rfl, hR⟩, h 2 _ rfl, hl⟩
end Go.Proofs.YtolnikpihedmbaaGreatDoor
