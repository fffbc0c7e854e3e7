/- A block of the call's own, known whole; a tuple's kinds, its copy, its hash. Conditions: none beyond Go's longest. -/
import Derived.Test.YtbahmkhnnahddaaTupB
import Derived.ArgAppend
import Derived.Laws.AppendOwnNone
namespace Go.Proofs.Ytbahmkhnnahddaa
open Go.RowKit Go.Deep

/-- block g is just these cells. -/
def Own (w : World) (g : Nat) (e : TypeId) (xs : List Value) : Prop := w.heap[g]? = some (.cells xs.toArray e (0, 0))
section
variable {w w' : World} {g : Nat} {e : TypeId} {xs : List Value}
theorem Own.lt (h : Own w g e xs) : g < w.heap.size := (Array.getElem?_eq_some_iff.1 h).1
theorem Own.cell (h : Own w g e xs) (i : Nat) : w.cell? ⟨g, i, none⟩ = xs[i]? := by
  unfold Own at h
  simp [World.cell?, h]
theorem Own.frozen (h : Own w g e xs) (i : Nat) : w.frozen? ⟨g, i, none⟩ = false := by
  unfold Own at h
  simp [World.frozen?, h]
theorem Own.set (h : Own w g e xs) (i : Nat) (u : Value) : Own (w.setCell ⟨g, i, none⟩ u) g e (xs.set i u) := by
  unfold Own at h ⊢
  simp [World.setCell, Array.getElem?_modify, h]
theorem Own.keep (h : Own w g e xs) {B : Nat} (hb : Below B w w') (hg : g < B) : Own w' g e xs := (hb.block g hg).trans h
theorem Own.below (h : Own w g e xs) (hb : Below w.heap.size w w') : Own w' g e xs := h.keep hb h.lt
theorem Own.alloc (h : Own w g e xs) (o : Obj) : Own (w.alloc o) g e xs := h.below ((Below.refl _ _).alloc (Nat.le_refl _) _)
theorem Own.of_row {base n size : Nat} {cap : Nat} (h : w.ownsRow base e size (.slice (some ⟨g, 0, none⟩) n cap) n xs) (hc : cap = n) : Own w g e xs := by
  obtain ⟨h1, ⟨h2, _⟩ | ⟨g', cap', cur, h2, _, h3, _, _, h4, h5⟩⟩ := h
  · cases h2
  · injection h2 with a1 _ a3
    injection a1 with a1
    injection a1 with a1
    subst a1 a3 hc
    rw [List.take_of_length_le (by simp [h4])] at h5
    unfold Own
    rw [h3, ← h5]
end

/-- the first so many of a row are written. -/
theorem mid_at {α β : Type} (f : α → β) (z : β) {l : List α} {k : Nat} (hk : k < l.length) : ((l.take k).map f ++ List.replicate (l.length - k) z)[k]? = some z := by
  have h1 : ((l.take k).map f).length = k := by simp; omega
  rw [List.getElem?_append_right (by omega), h1, Nat.sub_self, List.getElem?_replicate, if_pos (by omega)]
theorem mid_set {α β : Type} (f : α → β) (z : β) {l : List α} {k : Nat} (hk : k < l.length) :
    ((l.take k).map f ++ List.replicate (l.length - k) z).set k (f l[k]) = (l.take (k + 1)).map f ++ List.replicate (l.length - (k + 1)) z := by
  have e : l.length - k = (l.length - (k + 1)) + 1 := by omega
  have h1 : ((l.take k).map f).length = k := by simp; omega
  rw [List.set_append_right _ _ (by omega), h1, Nat.sub_self, e, List.replicate_succ, List.set_cons_zero, List.take_succ_eq_append_getElem hk, List.map_append]
  simp

/-- a call that hands back the tuple l and lays nothing but new blocks. -/
def GotT (w : World) (l : List V3) (e : Ending) (w' : World) : Prop :=
  ∃ A' c', e = .returned (.slice A' l.length c') ∧ l.length ≤ c' ∧ (A' = none → c' = 0) ∧ Row w' A' l ∧ Below w.heap.size w w'

theorem infoVal : (Try.prog.info? 48).map (fun i => (i.zero, i.size, i.bytes)) = some (some (.agg #[.int .i64 0, .int .i64 0, .string noText]), 3, 32) := by kernel_rfl
theorem infoStr : (Try.prog.info? 9).map (fun i => (i.zero, i.size, i.bytes)) = some (some (.string noText), 1, 16) := by kernel_rfl

set_option maxRecDepth 100000 in
set_option maxHeartbeats 400000 in
theorem Copy_any (A : Option Addr) (c : Nat) (l : List V3) (hl : l.length ≤ 100) (hn : A = none → c = 0) (w : World) (hr : Row w A l) :
    Calls Try.prog 44 #[.slice A l.length c] w fun e w' => GotT w l e w' := by
  have HR := Lib.hid hr
  clear hr
  obtain ⟨i, hi, hz, hs, hb⟩ := info_parts infoVal
  cases A with
  | none =>
    have hl0 : l = [] := by
      cases l with
      | nil => rfl
      | cons x r => obtain ⟨b, o, h, _⟩ := HR.out (by simp); cases h
    subst hl0
    have hc := hn rfl
    subst hc
    go_enter Try.func44, Try.ntmps44
    go_wp2_with (at_builtin; refine wpList_append_own_none rfl _ _ 35 rfl w.heap.size 48 i 3 Try.underlying35 hi (.slice none 0 0) 0 [] rfl (World.ownsRow_nil _ _ _ _) rfl ?_)
    go_wp2
    go_ret
    exact ⟨none, 0, rfl, Nat.le_refl _, fun _ => rfl, Row.nil _ _, Below.refl _ _⟩
  | some a =>
    have hcells : ∀ j u, (flat l)[j]? = some u → w.cell? (a.add j) = some u := by
      intro j u hu
      have h0 : 0 < l.length := by
        rcases Nat.eq_zero_or_pos l.length with h | h
        · have : l = [] := List.eq_nil_of_length_eq_zero h
          subst this
          simp [flat] at hu
        · exact h
      obtain ⟨b, o, h, _, hc⟩ := HR.out h0
      injection h with h
      subst h
      exact flat_cells hc j u hu
    go_enter Try.func44, Try.ntmps44
    go_wp2_with (at_builtin; refine wpList_append_own _ rfl _ _ 35 rfl w.heap.size 48 i _ 3 32 Try.underlying35 hi hz hs hb rfl (by decide) (.slice none 0 0) 0 [] rfl (World.ownsRow_nil _ _ _ _) a l.length c (flat l) rfl (flat_len l) hcells (flat_one l) ?b1 ?b2 (Nat.le_refl _) ?_)
    case b1 => unfold maxLen; omega
    case b2 => omega
    intro v' w1 ho hg _
    clear hi hz hs hb
    obtain ⟨A', c', rfl, hn'⟩ : ∃ A' c', v' = .slice A' l.length c' ∧ (A' = none → c' = 0) := by
      rcases ho.2 with ⟨h, h0⟩ | ⟨g, cap, cur, h, _⟩
      · exact ⟨none, 0, by rw [h]; congr 1; omega, fun _ => rfl⟩
      · exact ⟨_, cap, h, fun h => by cases h⟩
    obtain ⟨_, h1, h2⟩ := Row.own ho
    have HF := Lib.hid (show l.length ≤ c' ∧ (A' = none → c' = 0) ∧ Row w1 A' l ∧ Below w.heap.size w w1 from ⟨h1, hn', h2, (Below.refl _ _).grown hg (Nat.le_refl _) (by simp [Value.ownBlock])⟩)
    clear hn'
    clear ho hg h1 h2
    go_wp2
    go_ret
    exact ⟨A', c', rfl, HF.out⟩
end Go.Proofs.Ytbahmkhnnahddaa
