/- A region that draws its order and whose operations each make a value and new memory at most, but for the last one: what is known of each value holds, whatever the order. Conditions: as the law says. The chapter's example. Conditions: none. -/
import Derived.Test.YtikohamfnnlhcaaGreatDoorPcTermB
import Derived.Test.YtikohamfnnlhcaaGreatDoorPcTermO
import Derived.Test.YtikohamfnnlhcaaGreatDoorPcTermJ
import Derived.Test.YtikohamfnnlhcaaGreatDoorPcTermM
import Derived.Test.YtikohamfnnlhcaaGreatDoorPcTermW
import Derived.Test.YtikohamfnnlhcaaGreatDoorPcTermL
import Derived.RegionTactic
import Derived.Maps.OwnSet
import Derived.SliceStrings
import Derived.StringKeys
set_option linter.unusedVariables false
set_option linter.unusedSimpArgs false
namespace Go.Proofs.YtikohamfnnlhcaaGreatDoor
open Go.RowKit Go.Deep Go.Shelf

theorem count_set : ∀ (l : List Bool) (i : Nat), l[i]? = some false → (l.set i true).count false + 1 = l.count false
  | [], i, h => by simp at h
  | b :: r, 0, h => by
    simp only [List.getElem?_cons_zero, Option.some.injEq] at h
    subst h
    simp
  | b :: r, i + 1, h => by
    have ih := count_set r i (by simpa using h)
    rw [List.set_cons_succ, List.count_cons, List.count_cons]
    omega
section
variable {P : Program} {ops : Array Oper} {Q : Exit → Act → World → Prop}
theorem wpAny_done : ∀ (fuel : Nat) (l : Array Bool) (a : Act) (w : World), Region.ready .any ops l = [] → Q .normal a w → wpAny P .any ops Q fuel l a w
  | 0, _, _, _, h, hq => ⟨h, hq⟩
  | _ + 1, _, _, _, h, hq => ⟨fun _ => hq, fun i hi => by rw [h] at hi; cases hi⟩
theorem ready_mem {l : Array Bool} {i : Nat} : i ∈ Region.ready .any ops l ↔ i < ops.size ∧ l.getD i true = false ∧ ∃ o, ops[i]? = some o ∧ ∀ e ∈ o.after.toList, Region.binds .any e = true → l.getD e.on false = true := by
  unfold Region.ready
  simp only [List.mem_filter, List.mem_range, Bool.and_eq_true, Bool.not_eq_true']
  constructor
  · rintro ⟨h1, h2, h3⟩
    refine ⟨h1, h2, ops[i], Array.getElem?_eq_getElem h1, ?_⟩
    rw [Array.getElem?_eq_getElem h1] at h3
    simp only [Option.map_some, Option.getD_some] at h3
    rw [← Array.all_toList, List.all_eq_true] at h3
    intro e he hb
    have := h3 e he
    rw [hb] at this
    simpa using this
  · rintro ⟨h1, h2, o, ho, h3⟩
    refine ⟨h1, h2, ?_⟩
    rw [ho]
    simp only [Option.map_some, Option.getD_some]
    rw [← Array.all_toList, List.all_eq_true]
    intro e he
    cases hb : Region.binds .any e with
    | false => rfl
    | true => simpa using h3 e he hb
/-- between two operations. -/
structure MkI (m : Nat) (D : Nat → Tmp) (F : Nat → Value → World → Prop) (a0 : Act) (w0 : World) (l : Array Bool) (a : Act) (w : World) : Prop where
  sz : l.size = m + 1
  tm : a.tmps.size = a0.tmps.size
  df : a.defers = a0.defers
  fr : ∀ t, (∀ j, j < m → t ≠ D j) → a.tmps.getD t undef = a0.tmps.getD t undef
  low : Below w0.heap.size w0 w
  last : l.getD m true = false
  got : ∀ k, k < m → l.getD k false = true → F k (a.tmps.getD (D k) undef) w
theorem getD_put {a : Act} {d t : Tmp} {v : Value} (h : d < a.tmps.size) : (a.put (some d) v).tmps.getD t undef = if t = d then v else a.tmps.getD t undef := by
  simp only [Act.put]
  by_cases e : t = d
  · subst e
    rw [if_pos rfl]
    simp [Array.getD, h]
  · rw [if_neg e]
    simp only [Array.getD_eq_getD_getElem?]
    rw [Array.getElem?_setIfInBounds_ne (fun h => e h.symm)]
theorem getD_set {l : Array Bool} {i k : Nat} {b : Bool} (h : i < l.size) : (l.setIfInBounds i true).getD k b = if k = i then true else l.getD k b := by
  by_cases e : k = i
  · subst e
    rw [if_pos rfl]
    simp [Array.getD, h]
  · rw [if_neg e]
    simp only [Array.getD_eq_getD_getElem?]
    rw [Array.getElem?_setIfInBounds_ne (fun h => e h.symm)]
variable {m : Nat} {D : Nat → Tmp} {F : Nat → Value → World → Prop} {a0 : Act} {w0 : World}
theorem wpAny_makes (hsize : ops.size = m + 1) (hac : ∀ (i : Nat) o, ops[i]? = some o → ∀ e ∈ o.after.toList, e.on < i) (hdst : ∀ (i : Nat) o, i < m → ops[i]? = some o → o.dst = some (D i))
    (hinj : ∀ i j, i < m → j < m → D i = D j → i = j) (hlt : ∀ i, i < m → D i < a0.tmps.size) (hg : ∀ (i : Nat) o, ops[i]? = some o → o.guard = none)
    (hlast : ∀ o, ops[m]? = some o → ∀ i, i < m → ∃ e ∈ o.after.toList, Region.binds .any e = true ∧ e.on = i) (hF : ∀ k v X Y, F k v X → Below X.heap.size X Y → F k v Y)
    (hstep : ∀ i o, i < m → ops[i]? = some o → ∀ a w, (∀ t, (∀ j, j < m → t ≠ D j) → a.tmps.getD t undef = a0.tmps.getD t undef) → Below w0.heap.size w0 w → (∀ e ∈ o.after.toList, Region.binds .any e = true → F e.on (a.tmps.getD (D e.on) undef) w) →
      ∀ K : Act → World → Prop, (∀ v w', Below w.heap.size w w' → F i v w' → K (a.put o.dst v) w') → o.wp P a w K Q)
    (hfin : ∀ o, ops[m]? = some o → ∀ a w, a.defers = a0.defers → a.tmps.size = a0.tmps.size → (∀ t, (∀ j, j < m → t ≠ D j) → a.tmps.getD t undef = a0.tmps.getD t undef) → Below w0.heap.size w0 w → (∀ k, k < m → F k (a.tmps.getD (D k) undef) w) → o.wp P a w (fun a' w' => Q .normal a' w') Q) :
    ∀ (fuel : Nat) (l : Array Bool) (a : Act) (w : World), MkI m D F a0 w0 l a w → l.toList.count false ≤ fuel → wpAny P .any ops Q fuel l a w
  | 0, l, a, w, h, hc => by
    exfalso
    have hm : l.toList[m]? = some false := by
      have h1 := h.last
      have h2 : m < l.size := by rw [h.sz]; omega
      rw [Array.getD_eq_getD_getElem?, Array.getElem?_eq_getElem h2] at h1
      simp only [Option.getD_some] at h1
      rw [Array.getElem?_toList, Array.getElem?_eq_getElem h2, h1]
    have := count_set l.toList m hm
    omega
  | fuel + 1, l, a, w, h, hc => by
    refine ⟨fun h0 => ?_, fun i hi => ?_⟩
    · exfalso
      -- the first one that is not listed is ready
      have key : ∀ n, n ≤ m + 1 → ∀ k, k < n → l.getD k false = true := by
        intro n
        induction n with
        | zero => intro _ k hk; omega
        | succ n ih =>
          intro hn k hk
          by_cases e : k = n
          · subst e
            cases hb : l.getD k true with
            | true =>
              have h2 : k < l.size := by rw [h.sz]; omega
              rw [Array.getD_eq_getD_getElem?, Array.getElem?_eq_getElem h2] at hb ⊢
              simpa using hb
            | false =>
              exfalso
              have hlt' : k < ops.size := by omega
              have : k ∈ Region.ready .any ops l := ready_mem.2 ⟨hlt', hb, ops[k], Array.getElem?_eq_getElem hlt', fun e he _ => ih (by omega) _ (hac k _ (Array.getElem?_eq_getElem hlt') e he)⟩
              rw [h0] at this
              cases this
          · exact ih (by omega) k (by omega)
      have h1 := key (m + 1) (Nat.le_refl _) m (by omega)
      have h2 := h.last
      have h3 : m < l.size := by rw [h.sz]; omega
      rw [Array.getD_eq_getD_getElem?, Array.getElem?_eq_getElem h3] at h1 h2
      simp only [Option.getD_some] at h1 h2
      rw [h1] at h2
      cases h2
    · obtain ⟨hi1, hi2, o, ho, hdeps⟩ := ready_mem.1 hi
      have hil : i < l.size := by rw [h.sz]; omega
      have hcnt : (l.setIfInBounds i true).toList.count false + 1 = l.toList.count false := by
        rw [Array.toList_setIfInBounds]
        refine count_set _ _ ?_
        rw [Array.getD_eq_getD_getElem?, Array.getElem?_eq_getElem hil] at hi2
        simp only [Option.getD_some] at hi2
        rw [Array.getElem?_toList, Array.getElem?_eq_getElem hil, hi2]
      have hw : Region.wanted o (yielded ops a.tmps) = true := by unfold Region.wanted; rw [hg i o ho]
      unfold wpOp
      rw [ho]
      simp only [hw, if_true]
      refine .inl ?_
      by_cases him : i = m
      · subst him
        refine Oper.wp_mono (fun a' w' hq => wpAny_done fuel _ a' w' ?_ hq) (hfin o ho a w h.df h.tm h.fr h.low fun k hk => h.got k hk ?_)
        · -- nothing is left
          refine List.eq_nil_iff_forall_not_mem.2 fun j hj => ?_
          obtain ⟨j1, j2, _⟩ := ready_mem.1 hj
          rw [getD_set hil] at j2
          split at j2
          · cases j2
          · rename_i hne
            obtain ⟨e, he, hb, hon⟩ := hlast o ho j (by omega)
            have h5 := hdeps e he hb
            rw [hon] at h5
            have hjl : j < l.size := by rw [h.sz]; omega
            rw [Array.getD_eq_getD_getElem?, Array.getElem?_eq_getElem hjl] at h5 j2
            simp only [Option.getD_some] at h5 j2
            rw [h5] at j2
            cases j2
        · obtain ⟨e, he, hb, hon⟩ := hlast o ho k hk
          have h5 := hdeps e he hb
          rw [hon] at h5
          exact h5
      · have him' : i < m := by omega
        have hd := hdst i o him' ho
        refine hstep i o him' ho a w h.fr h.low (fun e he hb => h.got e.on (by have := hac i o ho e he; omega) (hdeps e he hb)) _ fun v w' hbw hv => ?_
        rw [hd]
        have hdl : D i < a.tmps.size := by rw [h.tm]; exact hlt i him'
        refine wpAny_makes hsize hac hdst hinj hlt hg hlast hF hstep hfin fuel _ _ _ ⟨?_, ?_, h.df, fun t ht => ?_, h.low.trans (hbw.mono h.low.size), ?_, fun k hk hlk => ?_⟩ (by omega)
        · simpa using h.sz
        · simpa [Act.put] using h.tm
        · rw [getD_put hdl, if_neg (ht i him')]
          exact h.fr t ht
        · rw [getD_set hil, if_neg (fun e => him e.symm)]
          exact h.last
        · rw [getD_set hil] at hlk
          rw [getD_put hdl]
          by_cases hki : k = i
          · subst hki
            rw [if_pos rfl]
            exact hv
          · rw [if_neg hki] at hlk
            rw [if_neg fun e => hki (hinj k i hk him' e)]
            exact hF k _ _ _ (h.got k hk hlk) hbw
theorem wp_region_makes {id : Nat} (hm : P.follows .mixedOrders = true) (hsize : ops.size = m + 1) (hac : ∀ (i : Nat) o, ops[i]? = some o → ∀ e ∈ o.after.toList, e.on < i) (hdst : ∀ (i : Nat) o, i < m → ops[i]? = some o → o.dst = some (D i))
    (hinj : ∀ i j, i < m → j < m → D i = D j → i = j) (hlt : ∀ i, i < m → D i < a0.tmps.size) (hg : ∀ (i : Nat) o, ops[i]? = some o → o.guard = none)
    (hlast : ∀ o, ops[m]? = some o → ∀ i, i < m → ∃ e ∈ o.after.toList, Region.binds .any e = true ∧ e.on = i) (hF : ∀ k v X Y, F k v X → Below X.heap.size X Y → F k v Y)
    (hstep : ∀ i o, i < m → ops[i]? = some o → ∀ a w, (∀ t, (∀ j, j < m → t ≠ D j) → a.tmps.getD t undef = a0.tmps.getD t undef) → Below w0.heap.size w0 w → (∀ e ∈ o.after.toList, Region.binds .any e = true → F e.on (a.tmps.getD (D e.on) undef) w) →
      ∀ K : Act → World → Prop, (∀ v w', Below w.heap.size w w' → F i v w' → K (a.put o.dst v) w') → o.wp P a w K Q)
    (hfin : ∀ o, ops[m]? = some o → ∀ a w, a.defers = a0.defers → a.tmps.size = a0.tmps.size → (∀ t, (∀ j, j < m → t ≠ D j) → a.tmps.getD t undef = a0.tmps.getD t undef) → Below w0.heap.size w0 w → (∀ k, k < m → F k (a.tmps.getD (D k) undef) w) → o.wp P a w (fun a' w' => Q .normal a' w') Q) :
    (Code.region id ops true).wp P Q a0 w0 := by
  refine wp_region_any hm (wpAny_makes hsize hac hdst hinj hlt hg hlast hF hstep hfin _ _ _ _ ⟨by simp [hsize], rfl, rfl, fun _ _ => rfl, (Below.refl _ _).drew, ?_, fun k hk h => ?_⟩ ?_)
  · simp [Array.getD, hsize]
  · exfalso
    have : k < m + 1 := by omega
    simp [Array.getD, hsize, this] at h
  · simp
end
end Go.Proofs.YtikohamfnnlhcaaGreatDoor

set_option linter.unusedVariables false
set_option linter.unusedSimpArgs false
namespace Go.Proofs.YtikohamfnnlhcaaGreatDoor
open Go.RowKit Go.Deep Go.Shelf

/-- texts in a row. -/
def TxRow (w : World) (A : Option Addr) (L : List ByteArray) : Prop := 0 < L.length → ∃ b o, A = some ⟨b, o, none⟩ ∧ b < w.heap.size ∧ ∀ (i : Nat) x, L[i]? = some x → w.cell? ⟨b, o + i, none⟩ = some (.string x)
theorem TxRow.own {w : World} {base : Nat} {e : TypeId} {A : Option Addr} {c : Nat} {L : List ByteArray} (h : w.ownsRow base e 1 (.slice A L.length c) L.length (L.map Value.string)) : TxRow w A L := fun h0 => by
  rcases h.2 with ⟨h1, h2⟩ | ⟨g, cap, cur, h1, hg, hc, hcap, _, hcs, htake⟩
  · omega
  · injection h1 with h1 _ _
    subst h1
    refine ⟨g, 0, rfl, (Array.getElem?_eq_some_iff.1 hc).1, fun i y hy => ?_⟩
    have hu : (L.map Value.string)[i]? = some (.string y) := by rw [List.getElem?_map, hy]; rfl
    rw [Nat.zero_add, cell_of_row w g i cur e (0, 0) hc]
    rw [← htake, List.getElem?_take] at hu
    split at hu
    · simpa using hu
    · cases hu
theorem TxRow.pers {w w' : World} {A : Option Addr} {L : List ByteArray} (h : TxRow w A L) (hp : Pers w w') : TxRow w' A L := fun h0 => by
  obtain ⟨b, o, h1, h2, h3⟩ := h h0
  exact ⟨b, o, h1, Nat.lt_of_lt_of_le h2 hp.1, fun i x hx => hp.2 _ _ (h3 i x hx)⟩
section
variable {ops : Array Oper} {m : Nat} {D : Nat → Tmp}
theorem ac_of (h : ((List.range ops.size).all fun i => ((ops[i]?).map fun o => o.after.toList.all fun e => decide (e.on < i)).getD true) = true) : ∀ (i : Nat) o, ops[i]? = some o → ∀ e ∈ o.after.toList, e.on < i := by
  intro i o ho e he
  have h1 := List.all_eq_true.1 h i (List.mem_range.2 (Array.getElem?_eq_some_iff.1 ho).1)
  rw [ho] at h1
  simp only [Option.map_some, Option.getD_some] at h1
  exact of_decide_eq_true (List.all_eq_true.1 h1 e he)
theorem dst_of (h : ((List.range m).all fun i => ((ops[i]?).map fun o => decide (o.dst = some (D i))).getD false) = true) : ∀ (i : Nat) o, i < m → ops[i]? = some o → o.dst = some (D i) := by
  intro i o hi ho
  have h1 := List.all_eq_true.1 h i (List.mem_range.2 hi)
  rw [ho] at h1
  simp only [Option.map_some, Option.getD_some] at h1
  exact of_decide_eq_true h1
theorem inj_of (h : ((List.range m).all fun i => (List.range m).all fun j => decide (D i = D j → i = j)) = true) : ∀ i j, i < m → j < m → D i = D j → i = j := fun i j hi hj =>
  of_decide_eq_true (List.all_eq_true.1 (List.all_eq_true.1 h i (List.mem_range.2 hi)) j (List.mem_range.2 hj))
theorem lt_of {n : Nat} (h : ((List.range m).all fun i => decide (D i < n)) = true) : ∀ i, i < m → D i < n := fun i hi => of_decide_eq_true (List.all_eq_true.1 h i (List.mem_range.2 hi))
theorem guard_of (h : ((List.range ops.size).all fun i => ((ops[i]?).map fun o => o.guard.isNone).getD true) = true) : ∀ (i : Nat) o, ops[i]? = some o → o.guard = none := by
  intro i o ho
  have h1 := List.all_eq_true.1 h i (List.mem_range.2 (Array.getElem?_eq_some_iff.1 ho).1)
  rw [ho] at h1
  simpa using h1
theorem last_of (h : (((ops[m]?).map fun o => (List.range m).all fun i => o.after.toList.any fun e => Region.binds .any e && decide (e.on = i)).getD true) = true) : ∀ o, ops[m]? = some o → ∀ i, i < m → ∃ e ∈ o.after.toList, Region.binds .any e = true ∧ e.on = i := by
  intro o ho i hi
  rw [ho] at h
  simp only [Option.map_some, Option.getD_some] at h
  have h1 := List.all_eq_true.1 h i (List.mem_range.2 hi)
  obtain ⟨e, he, h2⟩ := List.any_eq_true.1 h1
  rw [Bool.and_eq_true] at h2
  exact ⟨e, he, h2.1, of_decide_eq_true h2.2⟩
end

def tX : TTm := ⟨⟨#[88]⟩, 0, 0, noText⟩
def tY : TTm := ⟨⟨#[89]⟩, 0, 0, noText⟩
def tZ : TTm := ⟨⟨#[90]⟩, 0, 0, noText⟩
def eX : TEx := .mk 0 tX []
def eZ : TEx := .mk 0 tZ []
def e0 : TEx := .mk 0 zT []
def lt1 : TLt := ⟨1, ⟨⟨#[113]⟩, [tY, tZ]⟩, 0, e0, e0, 0⟩
def lt2 : TLt := ⟨3, ⟨noText, []⟩, 1, eX, eZ, 0⟩
def ru0 : TRu := ⟨⟨⟨#[112]⟩, [tX, tY]⟩, 0, 0, [lt1, lt2], 0⟩
/-- what is known of each value of the example's region. -/
def AlF (w0 : World) : Nat → Value → World → Prop
  | 0, v, _ => v = .agg #[.string ⟨#[88]⟩, .int .i64 0, .int .i64 0, .string noText]
  | 1, v, _ => v = .agg #[.string ⟨#[89]⟩, .int .i64 0, .int .i64 0, .string noText]
  | 2, v, w => ∃ b, v = .slice (some ⟨b, 0, none⟩) 2 2 ∧ Rg 4 TmC w (some ⟨b, 0, none⟩) [tX, tY]
  | 3, v, w => ∃ b, v = .agg #[.string ⟨#[112]⟩, .slice (some ⟨b, 0, none⟩) 2 2] ∧ Rg 4 TmC w (some ⟨b, 0, none⟩) [tX, tY]
  | 4, v, _ => v = .agg #[.string ⟨#[89]⟩, .int .i64 0, .int .i64 0, .string noText]
  | 5, v, _ => v = .agg #[.string ⟨#[90]⟩, .int .i64 0, .int .i64 0, .string noText]
  | 6, v, w => ∃ b, v = .slice (some ⟨b, 0, none⟩) 2 2 ∧ Rg 4 TmC w (some ⟨b, 0, none⟩) [tY, tZ]
  | 7, v, w => ∃ b, v = .agg #[.string ⟨#[113]⟩, .slice (some ⟨b, 0, none⟩) 2 2] ∧ Rg 4 TmC w (some ⟨b, 0, none⟩) [tY, tZ]
  | 8, v, w => ∃ b, v = .agg #[.int .i64 1, .string ⟨#[113]⟩, .slice (some ⟨b, 0, none⟩) 2 2, .int .i64 0, .int .i64 0, .string noText, .int .i64 0, .int .i64 0, .string noText, .slice none 0 0, .int .i64 0, .string noText, .int .i64 0, .int .i64 0, .string noText, .slice none 0 0, .int .i64 0] ∧ Rg 4 TmC w (some ⟨b, 0, none⟩) [tY, tZ]
  | 9, v, _ => v = .agg #[.int .i64 0, .string ⟨#[88]⟩, .int .i64 0, .int .i64 0, .string noText, .slice none 0 0]
  | 10, v, _ => v = .agg #[.int .i64 0, .string ⟨#[90]⟩, .int .i64 0, .int .i64 0, .string noText, .slice none 0 0]
  | 11, v, _ => v = .agg #[.int .i64 3, .string noText, .slice none 0 0, .int .i64 1, .int .i64 0, .string ⟨#[88]⟩, .int .i64 0, .int .i64 0, .string noText, .slice none 0 0, .int .i64 0, .string ⟨#[90]⟩, .int .i64 0, .int .i64 0, .string noText, .slice none 0 0, .int .i64 0]
  | 12, v, w => ∃ b, v = .slice (some ⟨b, 0, none⟩) 2 2 ∧ Rg 17 LtC w (some ⟨b, 0, none⟩) [lt1, lt2]
  | 13, v, w => ∃ b g, v = .agg #[.string ⟨#[112]⟩, .slice (some ⟨b, 0, none⟩) 2 2, .int .i64 0, .int .i64 0, .slice (some ⟨g, 0, none⟩) 2 2, .int .i64 0] ∧ RuV w ru0 (some ⟨b, 0, none⟩) (some ⟨g, 0, none⟩)
  | 14, v, w => ∃ b, v = .pointer (some ⟨b, 0, none⟩) ∧ Own w b 52 [.string noText, .slice none 0 0, .int .i64 0, .int .i64 0, .slice none 0 0, .int .i64 0] ∧ w0.heap.size ≤ b
  | _, _, _ => False
theorem AlF.keep {w0 : World} : ∀ k v X Y, AlF w0 k v X → Below X.heap.size X Y → AlF w0 k v Y
  | 0, _, _, _, h, _ => h
  | 1, _, _, _, h, _ => h
  | 2, _, _, _, ⟨b, h1, h2⟩, hb => ⟨b, h1, h2.tm (.of hb)⟩
  | 3, _, _, _, ⟨b, h1, h2⟩, hb => ⟨b, h1, h2.tm (.of hb)⟩
  | 4, _, _, _, h, _ => h
  | 5, _, _, _, h, _ => h
  | 6, _, _, _, ⟨b, h1, h2⟩, hb => ⟨b, h1, h2.tm (.of hb)⟩
  | 7, _, _, _, ⟨b, h1, h2⟩, hb => ⟨b, h1, h2.tm (.of hb)⟩
  | 8, _, _, _, ⟨b, h1, h2⟩, hb => ⟨b, h1, h2.tm (.of hb)⟩
  | 9, _, _, _, h, _ => h
  | 10, _, _, _, h, _ => h
  | 11, _, _, _, h, _ => h
  | 12, _, _, _, ⟨b, h1, h2⟩, hb => ⟨b, h1, h2.lt (.of hb)⟩
  | 13, _, _, _, ⟨b, g, h1, h2⟩, hb => ⟨b, g, h1, h2.below hb⟩
  | 14, _, _, _, ⟨b, h1, h2, h3⟩, hb => ⟨b, h1, h2.below hb, h3⟩
  | _ + 15, _, _, _, h, _ => h
theorem mk_val {P : Program} {o : Oper} {a : Act} {w w' : World} {K : Act → World → Prop} {Q : Exit → Act → World → Prop} {v : Value} (h : (execOp a.eval o).run P w = .ok (.value v) w') (hK : K (a.put o.dst v) w') : o.wp P a w K Q := by
  unfold Oper.wp
  rw [h]
  exact hK
theorem mk_call {P : Program} {o : Oper} {a : Act} {w : World} {K : Act → World → Prop} {Q : Exit → Act → World → Prop} {f : FuncId} {args : Array Value} (h : (execOp a.eval o).run P w = .ok (.enter f args) w)
    (hc : Calls P f args w fun e w' => ∃ v, e = .returned v ∧ K (a.put o.dst v) w') : o.wp P a w K Q := by
  unfold Oper.wp
  rw [h]
  refine hc.mono ?_
  rintro e w' ⟨v, rfl, hk⟩
  exact hk
theorem cons_of {α : Type} {n : Nat} : ∀ {l : List α}, l.length = n + 1 → ∃ x r, l = x :: r ∧ r.length = n
  | x :: r, h => ⟨x, r, rfl, by simpa using h⟩
section
variable {X Y : World} {b4 : Nat}
end
end Go.Proofs.YtikohamfnnlhcaaGreatDoor
