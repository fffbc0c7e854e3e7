/- A region that reads values, makes some boxes and lays values into them, in whatever order: what holds between any two operations. Conditions: none. -/
import Derived.Test.YtikohamfnnlhcaaGreatDoorPcTermIv
set_option linter.unusedVariables false
set_option linter.unusedSimpArgs false
namespace Go.Proofs.YtikohamfnnlhcaaGreatDoor
open Go.RowKit Go.Deep Go.Shelf

def upd (d : Nat → Bool) (i : Nat) : Nat → Bool := fun k => if k = i then true else d k
theorem upd_ne {d : Nat → Bool} {i k : Nat} (h : k ≠ i) : upd d i k = d k := if_neg h
theorem upd_at {d : Nat → Bool} {i : Nat} : upd d i i = true := if_pos rfl
/-- n reads, m boxes, m stores. -/
structure EJ (n m sz : Nat) (D : Nat → Nat) (wr : World) (V : Nat → Value) (Tp : Nat → TypeId) (xs zs : Nat → List Value) (a0 : Act) (d : Nat → Bool) (a : Act) (w : World) : Prop where
  tm : a.tmps.size = sz
  df : a.defers = a0.defers
  fr : ∀ t, (∀ k, k < n + m → t ≠ D k) → a.tmps.getD t undef = a0.tmps.getD t undef
  low : Below wr.heap.size wr w
  got : ∀ k, k < n → d k = true → a.tmps.getD (D k) undef = V k
  box : ∀ k, k < m → d (n + k) = true → ∃ b, a.tmps.getD (D (n + k)) undef = .pointer (some ⟨b, 0, none⟩) ∧ wr.heap.size ≤ b ∧ Own w b (Tp k) (if d (n + m + k) = true then xs k else zs k)
  ne : ∀ k l, k < m → l < m → k ≠ l → d (n + k) = true → d (n + l) = true → a.tmps.getD (D (n + k)) undef ≠ a.tmps.getD (D (n + l)) undef
  ord : ∀ k, k < m → d (n + m + k) = true → d (n + k) = true
section
variable {n m sz : Nat} {D : Nat → Nat} {wr : World} {a0 : Act} {V : Nat → Value} {Tp : Nat → TypeId} {xs zs : Nat → List Value} {d : Nat → Bool} {a : Act} {w : World}
theorem EJ.start (hsz : a0.tmps.size = sz) (hw : Below wr.heap.size wr w) : EJ n m sz D wr V Tp xs zs a0 (fun _ => false) a0 w :=
  ⟨hsz, rfl, (fun _ _ => rfl), hw, (fun _ _ h => by cases h), (fun _ _ h => by cases h), (fun _ _ _ _ _ h => by cases h), (fun _ _ h => by cases h)⟩
theorem EJ.read (h : EJ n m sz D wr V Tp xs zs a0 d a w) (hD : ∀ i j, i < n + m → j < n + m → D i = D j → i = j) (hlt : ∀ k, k < n + m → D k < sz) {i : Nat} (hi : i < n) {v : Value} (hv : v = V i) : EJ n m sz D wr V Tp xs zs a0 (upd d i) (a.put (some (D i)) v) w := by
  subst hv
  have hdl : D i < a.tmps.size := by rw [h.tm]; exact hlt i (by omega)
  have oth : ∀ k, k < n + m → k ≠ i → (a.put (some (D i)) (V i)).tmps.getD (D k) undef = a.tmps.getD (D k) undef := fun k hk hne => by
    rw [getD_put hdl, if_neg fun e => hne (hD k i hk (by omega) e)]
  refine ⟨by simpa [Act.put] using h.tm, h.df, fun t ht => ?_, h.low, fun k hk hd => ?_, fun k hk hd => ?_, fun k l hk hl hne h1 h2 => ?_, fun k hk hd => ?_⟩
  · rw [getD_put hdl, if_neg (ht i (by omega))]
    exact h.fr t ht
  · by_cases e : k = i
    · subst e
      rw [getD_put hdl, if_pos rfl]
    · rw [oth k (by omega) e]
      rw [upd_ne e] at hd
      exact h.got k hk hd
  · rw [upd_ne (by omega)] at hd
    rw [oth _ (by omega) (by omega), upd_ne (by omega)]
    exact h.box k hk hd
  · rw [upd_ne (by omega)] at h1 h2
    rw [oth _ (by omega) (by omega), oth _ (by omega) (by omega)]
    exact h.ne k l hk hl hne h1 h2
  · rw [upd_ne (by omega)] at hd ⊢
    exact h.ord k hk hd
theorem EJ.alloc (h : EJ n m sz D wr V Tp xs zs a0 d a w) (hD : ∀ i j, i < n + m → j < n + m → D i = D j → i = j) (hlt : ∀ k, k < n + m → D k < sz) {i k : Nat} (hk : k < m) (hi : i = n + k) (hdi : d i = false) :
    EJ n m sz D wr V Tp xs zs a0 (upd d i) (a.put (some (D i)) (.pointer (some ⟨w.heap.size, 0, none⟩))) (w.alloc (.cells (zs k).toArray (Tp k))) := by
  subst hi
  have hdl : D (n + k) < a.tmps.size := by rw [h.tm]; exact hlt _ (by omega)
  have hb : Below w.heap.size w (w.alloc (.cells (zs k).toArray (Tp k))) := (Below.refl _ _).alloc (Nat.le_refl _) _
  have oth : ∀ q, q < n + m → q ≠ n + k → (a.put (some (D (n + k))) (.pointer (some ⟨w.heap.size, 0, none⟩))).tmps.getD (D q) undef = a.tmps.getD (D q) undef := fun q hq hne => by
    rw [getD_put hdl, if_neg fun e => hne (hD q _ hq (by omega) e)]
  have hst : d (n + m + k) = false := by
    cases hz : d (n + m + k) with
    | false => rfl
    | true => rw [h.ord k hk hz] at hdi; cases hdi
  have hnew : ∀ l, l < m → l ≠ k → d (n + l) = true → (Value.pointer (some ⟨w.heap.size, 0, none⟩)) ≠ a.tmps.getD (D (n + l)) undef := fun l hl hne hd => by
    obtain ⟨b, h1, _, h3⟩ := h.box l hl hd
    rw [h1]
    intro e
    injection e with e
    injection e with e
    injection e with e
    have := h3.lt
    omega
  refine ⟨by simpa [Act.put] using h.tm, h.df, fun t ht => ?_, h.low.trans (hb.mono h.low.size), fun q hq hd => ?_, fun q hq hd => ?_, fun p q hp hq hne h1 h2 => ?_, fun q hq hd => ?_⟩
  · rw [getD_put hdl, if_neg (ht _ (by omega))]
    exact h.fr t ht
  · rw [upd_ne (by omega)] at hd
    rw [oth q (by omega) (by omega)]
    exact h.got q hq hd
  · by_cases e : q = k
    · subst e
      refine ⟨w.heap.size, by rw [getD_put hdl, if_pos rfl], h.low.size, ?_⟩
      rw [upd_ne (by omega), hst]
      exact heap_alloc_new _ _
    · rw [upd_ne (by omega)] at hd
      rw [oth _ (by omega) (by omega), upd_ne (by omega)]
      obtain ⟨b, h1, h2, h3⟩ := h.box q hq hd
      exact ⟨b, h1, h2, h3.below hb⟩
  · by_cases e : p = k
    · subst e
      rw [upd_ne (by omega)] at h2
      rw [getD_put hdl, if_pos rfl, oth _ (by omega) (by omega)]
      exact hnew q hq (fun e => hne e.symm) h2
    · rw [upd_ne (by omega)] at h1
      by_cases e' : q = k
      · subst e'
        rw [oth _ (by omega) (by omega), getD_put hdl, if_pos rfl]
        exact fun z => hnew p hp e h1 z.symm
      · rw [upd_ne (by omega)] at h2
        rw [oth _ (by omega) (by omega), oth _ (by omega) (by omega)]
        exact h.ne p q hp hq hne h1 h2
  · rw [upd_ne (by omega)] at hd
    by_cases e : q = k
    · subst e; exact upd_at
    · rw [upd_ne (by omega)]
      exact h.ord q hq hd
theorem EJ.store (h : EJ n m sz D wr V Tp xs zs a0 d a w) {i k : Nat} (hk : k < m) (hi : i = n + m + k) (hdk : d (n + k) = true) (hdi : d i = false) {b : Nat} (hp : a.tmps.getD (D (n + k)) undef = .pointer (some ⟨b, 0, none⟩)) :
    EJ n m sz D wr V Tp xs zs a0 (upd d i) a (w.setRow b (xs k).toArray) := by
  subst hi
  obtain ⟨b', g1, g2, g3⟩ := h.box k hk hdk
  rw [hp] at g1
  injection g1 with g1
  injection g1 with g1
  injection g1 with g1
  subst g1
  have hkr : Kept [b] w (w.setRow b (xs k).toArray) := ⟨rfl, rfl, rfl, by simp, fun q _ hq => setRow_other w b q _ (by simpa using hq)⟩
  have hrow : Own (w.setRow b (xs k).toArray) b (Tp k) (xs k) := setRow_heap w b _ (xs k).toArray _ _ g3
  refine ⟨h.tm, h.df, h.fr, h.low.trans (hkr.below h.low.size (fun q hq => by simp only [List.mem_singleton] at hq; omega)), fun q hq hd => ?_, fun q hq hd => ?_, fun p q hp hq hne h1 h2 => ?_, fun q hq hd => ?_⟩
  · rw [upd_ne (by omega)] at hd
    exact h.got q hq hd
  · rw [upd_ne (by omega)] at hd
    by_cases e : q = k
    · subst e
      exact ⟨b, hp, g2, by rw [upd_at, if_pos rfl]; exact hrow⟩
    · obtain ⟨c, h1, h2, h3⟩ := h.box q hq hd
      refine ⟨c, h1, h2, ?_⟩
      rw [upd_ne (by omega)]
      refine hkr.own h3 ?_
      simp only [List.mem_singleton]
      rintro rfl
      exact h.ne q k hq hk e hd hdk (h1.trans hp.symm)
  · rw [upd_ne (by omega)] at h1 h2
    exact h.ne p q hp hq hne h1 h2
  · by_cases e : q = k
    · subst e
      rw [upd_ne (by omega)]
      exact hdk
    · rw [upd_ne (by omega)] at hd
      rw [upd_ne (by omega)]
      exact h.ord q hq hd
end
theorem wp_region_inv' {P : Program} {ops : Array Oper} {Q : Exit → Act → World → Prop} {n : Nat} {J : Act → (Nat → Bool) → Act → World → Prop} {id : Nat} {a0 : Act} {w0 : World} (hm : P.follows .mixedOrders = true) (hsize : ops.size = n) (hac : ∀ (i : Nat) o, ops[i]? = some o → ∀ e ∈ o.after.toList, Region.binds .any e = true → e.on < i) (hg : ∀ (i : Nat) o, ops[i]? = some o → o.guard = none)
    (h0 : J a0 (fun _ => false) a0 w0.drew)
    (hstep : ∀ i o (d : Nat → Bool) a w, i < n → ops[i]? = some o → d i = false → (∀ e ∈ o.after.toList, Region.binds .any e = true → d e.on = true) → J a0 d a w → ∀ K : Act → World → Prop, (∀ a' w', J a0 (fun k => if k = i then true else d k) a' w' → K a' w') → o.wp P a w K Q)
    (hend : ∀ (d : Nat → Bool) a w, (∀ k, k < n → d k = true) → J a0 d a w → Q .normal a w) : (Code.region id ops true).wp P Q a0 w0 := wp_region_inv (J := J a0) hm hsize hac hg h0 hstep hend
end Go.Proofs.YtikohamfnnlhcaaGreatDoor
