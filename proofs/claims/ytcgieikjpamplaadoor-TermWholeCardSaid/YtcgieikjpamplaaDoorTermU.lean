/- A region that draws its order and whose operations each make a value and new memory at most, but for the last one: what is known of each value holds, whatever the order. Conditions: as the law says. -/
import Derived.Test.YtcgieikjpamplaaDoorTermB
import Derived.RegionTactic
set_option linter.unusedVariables false
set_option linter.unusedSimpArgs false
namespace Go.Proofs.YtcgieikjpamplaaDoor
open Go.RowKit Go.Deep Go.Shelf

theorem count_set : ∀ (l : List Bool) (i : Nat), l[i]? = some false → (l.set i true).count false + 1 = l.count false
  | [], i, h => by simp at h
  | b :: r, 0, h => by
    simp only [List.getElem?_cons_zero, Option.some.injEq] at h
    subst h
    simp
  | b :: r, i + 1, h => by
    have ih := count_set r i (by simpa using h)
    rw [List.set_cons_succ, List.count_cons, List.count_cons]
    omega
section
variable {P : Program} {ops : Array Oper} {Q : Exit → Act → World → Prop}
theorem wpAny_done : ∀ (fuel : Nat) (l : Array Bool) (a : Act) (w : World), Region.ready .any ops l = [] → Q .normal a w → wpAny P .any ops Q fuel l a w
  | 0, _, _, _, h, hq => ⟨h, hq⟩
  | _ + 1, _, _, _, h, hq => ⟨fun _ => hq, fun i hi => by rw [h] at hi; cases hi⟩
theorem ready_mem {l : Array Bool} {i : Nat} : i ∈ Region.ready .any ops l ↔ i < ops.size ∧ l.getD i true = false ∧ ∃ o, ops[i]? = some o ∧ ∀ e ∈ o.after.toList, Region.binds .any e = true → l.getD e.on false = true := by
  unfold Region.ready
  simp only [List.mem_filter, List.mem_range, Bool.and_eq_true, Bool.not_eq_true']
  constructor
  · rintro ⟨h1, h2, h3⟩
    refine ⟨h1, h2, ops[i], Array.getElem?_eq_getElem h1, ?_⟩
    rw [Array.getElem?_eq_getElem h1] at h3
    simp only [Option.map_some, Option.getD_some] at h3
    rw [← Array.all_toList, List.all_eq_true] at h3
    intro e he hb
    have := h3 e he
    rw [hb] at this
    simpa using this
  · rintro ⟨h1, h2, o, ho, h3⟩
    refine ⟨h1, h2, ?_⟩
    rw [ho]
    simp only [Option.map_some, Option.getD_some]
    rw [← Array.all_toList, List.all_eq_true]
    intro e he
    cases hb : Region.binds .any e with
    | false => rfl
    | true => simpa using h3 e he hb
/-- between two operations. -/
structure MkI (m : Nat) (D : Nat → Tmp) (F : Nat → Value → World → Prop) (a0 : Act) (w0 : World) (l : Array Bool) (a : Act) (w : World) : Prop where
  sz : l.size = m + 1
  tm : a.tmps.size = a0.tmps.size
  df : a.defers = a0.defers
  fr : ∀ t, (∀ j, j < m → t ≠ D j) → a.tmps.getD t undef = a0.tmps.getD t undef
  low : Below w0.heap.size w0 w
  last : l.getD m true = false
  got : ∀ k, k < m → l.getD k false = true → F k (a.tmps.getD (D k) undef) w
theorem getD_put {a : Act} {d t : Tmp} {v : Value} (h : d < a.tmps.size) : (a.put (some d) v).tmps.getD t undef = if t = d then v else a.tmps.getD t undef := by
  simp only [Act.put]
  by_cases e : t = d
  · subst e
    rw [if_pos rfl]
    simp [Array.getD, h]
  · rw [if_neg e]
    simp only [Array.getD_eq_getD_getElem?]
    rw [Array.getElem?_setIfInBounds_ne (fun h => e h.symm)]
theorem getD_set {l : Array Bool} {i k : Nat} {b : Bool} (h : i < l.size) : (l.setIfInBounds i true).getD k b = if k = i then true else l.getD k b := by
  by_cases e : k = i
  · subst e
    rw [if_pos rfl]
    simp [Array.getD, h]
  · rw [if_neg e]
    simp only [Array.getD_eq_getD_getElem?]
    rw [Array.getElem?_setIfInBounds_ne (fun h => e h.symm)]
variable {m : Nat} {D : Nat → Tmp} {F : Nat → Value → World → Prop} {a0 : Act} {w0 : World}
theorem wpAny_makes (hsize : ops.size = m + 1) (hac : ∀ (i : Nat) o, ops[i]? = some o → ∀ e ∈ o.after.toList, e.on < i) (hdst : ∀ (i : Nat) o, i < m → ops[i]? = some o → o.dst = some (D i))
    (hinj : ∀ i j, i < m → j < m → D i = D j → i = j) (hlt : ∀ i, i < m → D i < a0.tmps.size) (hg : ∀ (i : Nat) o, ops[i]? = some o → o.guard = none)
    (hlast : ∀ o, ops[m]? = some o → ∀ i, i < m → ∃ e ∈ o.after.toList, Region.binds .any e = true ∧ e.on = i) (hF : ∀ k v X Y, F k v X → Below X.heap.size X Y → F k v Y)
    (hstep : ∀ i o, i < m → ops[i]? = some o → ∀ a w, (∀ t, (∀ j, j < m → t ≠ D j) → a.tmps.getD t undef = a0.tmps.getD t undef) → Below w0.heap.size w0 w → (∀ e ∈ o.after.toList, Region.binds .any e = true → F e.on (a.tmps.getD (D e.on) undef) w) →
      ∀ K : Act → World → Prop, (∀ v w', Below w.heap.size w w' → F i v w' → K (a.put o.dst v) w') → o.wp P a w K Q)
    (hfin : ∀ o, ops[m]? = some o → ∀ a w, a.defers = a0.defers → a.tmps.size = a0.tmps.size → (∀ t, (∀ j, j < m → t ≠ D j) → a.tmps.getD t undef = a0.tmps.getD t undef) → Below w0.heap.size w0 w → (∀ k, k < m → F k (a.tmps.getD (D k) undef) w) → o.wp P a w (fun a' w' => Q .normal a' w') Q) :
    ∀ (fuel : Nat) (l : Array Bool) (a : Act) (w : World), MkI m D F a0 w0 l a w → l.toList.count false ≤ fuel → wpAny P .any ops Q fuel l a w
  | 0, l, a, w, h, hc => by
    exfalso
    have hm : l.toList[m]? = some false := by
      have h1 := h.last
      have h2 : m < l.size := by rw [h.sz]; omega
      rw [Array.getD_eq_getD_getElem?, Array.getElem?_eq_getElem h2] at h1
      simp only [Option.getD_some] at h1
      rw [Array.getElem?_toList, Array.getElem?_eq_getElem h2, h1]
    have := count_set l.toList m hm
    omega
  | fuel + 1, l, a, w, h, hc => by
    refine ⟨fun h0 => ?_, fun i hi => ?_⟩
    · exfalso
      -- the first one that is not listed is ready
      have key : ∀ n, n ≤ m + 1 → ∀ k, k < n → l.getD k false = true := by
        intro n
        induction n with
        | zero => intro _ k hk; omega
        | succ n ih =>
          intro hn k hk
          by_cases e : k = n
          · subst e
            cases hb : l.getD k true with
            | true =>
              have h2 : k < l.size := by rw [h.sz]; omega
              rw [Array.getD_eq_getD_getElem?, Array.getElem?_eq_getElem h2] at hb ⊢
              simpa using hb
            | false =>
              exfalso
              have hlt' : k < ops.size := by omega
              have : k ∈ Region.ready .any ops l := ready_mem.2 ⟨hlt', hb, ops[k], Array.getElem?_eq_getElem hlt', fun e he _ => ih (by omega) _ (hac k _ (Array.getElem?_eq_getElem hlt') e he)⟩
              rw [h0] at this
              cases this
          · exact ih (by omega) k (by omega)
      have h1 := key (m + 1) (Nat.le_refl _) m (by omega)
      have h2 := h.last
      have h3 : m < l.size := by rw [h.sz]; omega
      rw [Array.getD_eq_getD_getElem?, Array.getElem?_eq_getElem h3] at h1 h2
      simp only [Option.getD_some] at h1 h2
      rw [h1] at h2
      cases h2
    · obtain ⟨hi1, hi2, o, ho, hdeps⟩ := ready_mem.1 hi
      have hil : i < l.size := by rw [h.sz]; omega
      have hcnt : (l.setIfInBounds i true).toList.count false + 1 = l.toList.count false := by
        rw [Array.toList_setIfInBounds]
        refine count_set _ _ ?_
        rw [Array.getD_eq_getD_getElem?, Array.getElem?_eq_getElem hil] at hi2
        simp only [Option.getD_some] at hi2
        rw [Array.getElem?_toList, Array.getElem?_eq_getElem hil, hi2]
      have hw : Region.wanted o (yielded ops a.tmps) = true := by unfold Region.wanted; rw [hg i o ho]
      unfold wpOp
      rw [ho]
      simp only [hw, if_true]
      refine .inl ?_
      by_cases him : i = m
      · subst him
        refine Oper.wp_mono (fun a' w' hq => wpAny_done fuel _ a' w' ?_ hq) (hfin o ho a w h.df h.tm h.fr h.low fun k hk => h.got k hk ?_)
        · -- nothing is left
          refine List.eq_nil_iff_forall_not_mem.2 fun j hj => ?_
          obtain ⟨j1, j2, _⟩ := ready_mem.1 hj
          rw [getD_set hil] at j2
          split at j2
          · cases j2
          · rename_i hne
            obtain ⟨e, he, hb, hon⟩ := hlast o ho j (by omega)
            have h5 := hdeps e he hb
            rw [hon] at h5
            have hjl : j < l.size := by rw [h.sz]; omega
            rw [Array.getD_eq_getD_getElem?, Array.getElem?_eq_getElem hjl] at h5 j2
            simp only [Option.getD_some] at h5 j2
            rw [h5] at j2
            cases j2
        · obtain ⟨e, he, hb, hon⟩ := hlast o ho k hk
          have h5 := hdeps e he hb
          rw [hon] at h5
          exact h5
      · have him' : i < m := by omega
        have hd := hdst i o him' ho
        refine hstep i o him' ho a w h.fr h.low (fun e he hb => h.got e.on (by have := hac i o ho e he; omega) (hdeps e he hb)) _ fun v w' hbw hv => ?_
        rw [hd]
        have hdl : D i < a.tmps.size := by rw [h.tm]; exact hlt i him'
        refine wpAny_makes hsize hac hdst hinj hlt hg hlast hF hstep hfin fuel _ _ _ ⟨?_, ?_, h.df, fun t ht => ?_, h.low.trans (hbw.mono h.low.size), ?_, fun k hk hlk => ?_⟩ (by omega)
        · simpa using h.sz
        · simpa [Act.put] using h.tm
        · rw [getD_put hdl, if_neg (ht i him')]
          exact h.fr t ht
        · rw [getD_set hil, if_neg (fun e => him e.symm)]
          exact h.last
        · rw [getD_set hil] at hlk
          rw [getD_put hdl]
          by_cases hki : k = i
          · subst hki
            rw [if_pos rfl]
            exact hv
          · rw [if_neg hki] at hlk
            rw [if_neg fun e => hki (hinj k i hk him' e)]
            exact hF k _ _ _ (h.got k hk hlk) hbw
theorem wp_region_makes {id : Nat} (hm : P.follows .mixedOrders = true) (hsize : ops.size = m + 1) (hac : ∀ (i : Nat) o, ops[i]? = some o → ∀ e ∈ o.after.toList, e.on < i) (hdst : ∀ (i : Nat) o, i < m → ops[i]? = some o → o.dst = some (D i))
    (hinj : ∀ i j, i < m → j < m → D i = D j → i = j) (hlt : ∀ i, i < m → D i < a0.tmps.size) (hg : ∀ (i : Nat) o, ops[i]? = some o → o.guard = none)
    (hlast : ∀ o, ops[m]? = some o → ∀ i, i < m → ∃ e ∈ o.after.toList, Region.binds .any e = true ∧ e.on = i) (hF : ∀ k v X Y, F k v X → Below X.heap.size X Y → F k v Y)
    (hstep : ∀ i o, i < m → ops[i]? = some o → ∀ a w, (∀ t, (∀ j, j < m → t ≠ D j) → a.tmps.getD t undef = a0.tmps.getD t undef) → Below w0.heap.size w0 w → (∀ e ∈ o.after.toList, Region.binds .any e = true → F e.on (a.tmps.getD (D e.on) undef) w) →
      ∀ K : Act → World → Prop, (∀ v w', Below w.heap.size w w' → F i v w' → K (a.put o.dst v) w') → o.wp P a w K Q)
    (hfin : ∀ o, ops[m]? = some o → ∀ a w, a.defers = a0.defers → a.tmps.size = a0.tmps.size → (∀ t, (∀ j, j < m → t ≠ D j) → a.tmps.getD t undef = a0.tmps.getD t undef) → Below w0.heap.size w0 w → (∀ k, k < m → F k (a.tmps.getD (D k) undef) w) → o.wp P a w (fun a' w' => Q .normal a' w') Q) :
    (Code.region id ops true).wp P Q a0 w0 := by
  refine wp_region_any hm (wpAny_makes hsize hac hdst hinj hlt hg hlast hF hstep hfin _ _ _ _ ⟨by simp [hsize], rfl, rfl, fun _ _ => rfl, (Below.refl _ _).drew, ?_, fun k hk h => ?_⟩ ?_)
  · simp [Array.getD, hsize]
  · exfalso
    have : k < m + 1 := by omega
    simp [Array.getD, hsize, this] at h
  · simp
end
end Go.Proofs.YtcgieikjpamplaaDoor
