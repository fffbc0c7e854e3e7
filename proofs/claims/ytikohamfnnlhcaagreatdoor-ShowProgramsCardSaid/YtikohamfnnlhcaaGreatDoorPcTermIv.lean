/- A region that draws its order: what holds between any two operations, told of which ones are done. Conditions: as the law says. -/
import Derived.Test.YtikohamfnnlhcaaGreatDoorPcTermTb
set_option linter.unusedVariables false
set_option linter.unusedSimpArgs false
namespace Go.Proofs.YtikohamfnnlhcaaGreatDoor
open Go.RowKit Go.Deep Go.Shelf

section
variable {P : Program} {ops : Array Oper} {Q : Exit → Act → World → Prop} {n : Nat} {J : (Nat → Bool) → Act → World → Prop}
theorem ac_of' (h : ((List.range ops.size).all fun i => ((ops[i]?).map fun o => o.after.toList.all fun e => !(Region.binds .any e) || decide (e.on < i)).getD true) = true) : ∀ (i : Nat) o, ops[i]? = some o → ∀ e ∈ o.after.toList, Region.binds .any e = true → e.on < i := by
  intro i o ho e he hb
  have h1 := List.all_eq_true.1 h i (List.mem_range.2 (Array.getElem?_eq_some_iff.1 ho).1)
  rw [ho] at h1
  simp only [Option.map_some, Option.getD_some] at h1
  have h2 := List.all_eq_true.1 h1 e he
  rw [hb] at h2
  exact of_decide_eq_true (by simpa using h2)
theorem count_all : ∀ (l : List Bool), l.count false = 0 → ∀ (i : Nat) b, l[i]? = some b → b = true
  | [], _, i, b, h => by simp at h
  | c :: r, h, i, b, hb => by
    cases c with
    | false => simp at h
    | true =>
      cases i with
      | zero => simp at hb; exact hb
      | succ i => exact count_all r (by simpa using h) i b (by simpa using hb)
theorem wpAny_inv (hsize : ops.size = n) (hac : ∀ (i : Nat) o, ops[i]? = some o → ∀ e ∈ o.after.toList, Region.binds .any e = true → e.on < i) (hg : ∀ (i : Nat) o, ops[i]? = some o → o.guard = none)
    (hstep : ∀ i o (d : Nat → Bool) a w, i < n → ops[i]? = some o → d i = false → (∀ e ∈ o.after.toList, Region.binds .any e = true → d e.on = true) → J d a w → ∀ K : Act → World → Prop, (∀ a' w', J (fun k => if k = i then true else d k) a' w' → K a' w') → o.wp P a w K Q)
    (hend : ∀ (d : Nat → Bool) a w, (∀ k, k < n → d k = true) → J d a w → Q .normal a w) :
    ∀ (fuel : Nat) (l : Array Bool) (a : Act) (w : World), l.size = n → J (fun k => l.getD k false) a w → l.toList.count false ≤ fuel → wpAny P .any ops Q fuel l a w
  | 0, l, a, w, hl, hJ, hc => by
    have hall : ∀ k, k < n → l.getD k false = true := fun k hk => by
      have h2 : k < l.size := by omega
      rw [Array.getD_eq_getD_getElem?, Array.getElem?_eq_getElem h2]
      exact count_all l.toList (by omega) k _ (by rw [Array.getElem?_toList, Array.getElem?_eq_getElem h2]; rfl)
    refine wpAny_done 0 l a w (List.eq_nil_iff_forall_not_mem.2 fun j hj => ?_) (hend _ a w hall hJ)
    obtain ⟨j1, j2, _⟩ := ready_mem.1 hj
    have h1 := hall j (by omega)
    have h2 : j < l.size := by omega
    rw [Array.getD_eq_getD_getElem?, Array.getElem?_eq_getElem h2] at h1 j2
    simp only [Option.getD_some] at h1 j2
    rw [h1] at j2
    cases j2
  | fuel + 1, l, a, w, hl, hJ, hc => by
    refine ⟨fun h0 => hend _ a w ?_ hJ, fun i hi => ?_⟩
    · -- the first one that is not listed is ready
      have key : ∀ m, m ≤ n → ∀ k, k < m → l.getD k false = true := by
        intro m
        induction m with
        | zero => intro _ k hk; omega
        | succ m ih =>
          intro hn k hk
          by_cases e : k = m
          · subst e
            have h2 : k < l.size := by omega
            cases hb : l.getD k true with
            | true =>
              rw [Array.getD_eq_getD_getElem?, Array.getElem?_eq_getElem h2] at hb ⊢
              simpa using hb
            | false =>
              exfalso
              have hlt' : k < ops.size := by omega
              have : k ∈ Region.ready .any ops l := ready_mem.2 ⟨hlt', hb, ops[k], Array.getElem?_eq_getElem hlt', fun e he hb' => ih (by omega) _ (hac k _ (Array.getElem?_eq_getElem hlt') e he hb')⟩
              rw [h0] at this
              cases this
          · exact ih (by omega) k (by omega)
      exact key n (Nat.le_refl _)
    · obtain ⟨hi1, hi2, o, ho, hdeps⟩ := ready_mem.1 hi
      have hil : i < l.size := by omega
      have hif : l.getD i false = false := by
        rw [Array.getD_eq_getD_getElem?, Array.getElem?_eq_getElem hil] at hi2 ⊢
        exact hi2
      have hcnt : (l.setIfInBounds i true).toList.count false + 1 = l.toList.count false := by
        rw [Array.toList_setIfInBounds]
        refine count_set _ _ ?_
        rw [Array.getD_eq_getD_getElem?, Array.getElem?_eq_getElem hil] at hi2
        simp only [Option.getD_some] at hi2
        rw [Array.getElem?_toList, Array.getElem?_eq_getElem hil, hi2]
      have hw : Region.wanted o (yielded ops a.tmps) = true := by unfold Region.wanted; rw [hg i o ho]
      unfold wpOp
      rw [ho]
      simp only [hw, if_true]
      refine .inl ?_
      refine hstep i o (fun k => l.getD k false) a w (by omega) ho hif hdeps hJ _ fun a' w' hJ' => ?_
      refine wpAny_inv hsize hac hg hstep hend fuel _ a' w' (by simpa using hl) ?_ (by omega)
      have he : (fun k => (l.setIfInBounds i true).getD k false) = fun k => if k = i then true else l.getD k false := funext fun k => getD_set hil
      rw [he]
      exact hJ'
theorem wp_region_inv {id : Nat} {a0 : Act} {w0 : World} (hm : P.follows .mixedOrders = true) (hsize : ops.size = n) (hac : ∀ (i : Nat) o, ops[i]? = some o → ∀ e ∈ o.after.toList, Region.binds .any e = true → e.on < i) (hg : ∀ (i : Nat) o, ops[i]? = some o → o.guard = none)
    (h0 : J (fun _ => false) a0 w0.drew)
    (hstep : ∀ i o (d : Nat → Bool) a w, i < n → ops[i]? = some o → d i = false → (∀ e ∈ o.after.toList, Region.binds .any e = true → d e.on = true) → J d a w → ∀ K : Act → World → Prop, (∀ a' w', J (fun k => if k = i then true else d k) a' w' → K a' w') → o.wp P a w K Q)
    (hend : ∀ (d : Nat → Bool) a w, (∀ k, k < n → d k = true) → J d a w → Q .normal a w) : (Code.region id ops true).wp P Q a0 w0 := by
  refine wp_region_any hm (wpAny_inv hsize hac hg hstep hend _ _ _ _ (by simp [hsize]) ?_ ?_)
  · have : (fun k => (Array.replicate ops.size false).getD k false) = fun _ => false := funext fun k => by
      simp [Array.getD_eq_getD_getElem?, Array.getElem?_replicate]
      split <;> rfl
    rw [this]
    exact h0
  · simp
end
end Go.Proofs.YtikohamfnnlhcaaGreatDoor
