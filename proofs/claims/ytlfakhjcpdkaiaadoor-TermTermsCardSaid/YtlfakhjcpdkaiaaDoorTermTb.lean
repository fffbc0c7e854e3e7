/- A region that draws its order and whose operations each make a value and new memory at most, but for the last one: what is known of each value holds, whatever the order. Conditions: as the law says. The chapter's example. Conditions: none. -/
import Derived.Test.YtlfakhjcpdkaiaaDoorTermB
import Derived.RegionTactic
import Derived.Test.YtlfakhjcpdkaiaaDoorTermR
import Derived.Test.YtlfakhjcpdkaiaaDoorTermL
set_option linter.unusedVariables false
set_option linter.unusedSimpArgs false
namespace Go.Proofs.YtlfakhjcpdkaiaaDoor
open Go.RowKit Go.Deep Go.Shelf

theorem count_set : ∀ (l : List Bool) (i : Nat), l[i]? = some false → (l.set i true).count false + 1 = l.count false
  | [], i, h => by simp at h
  | b :: r, 0, h => by
    simp only [List.getElem?_cons_zero, Option.some.injEq] at h
    subst h
    simp
  | b :: r, i + 1, h => by
    have ih := count_set r i (by simpa using h)
    rw [List.set_cons_succ, List.count_cons, List.count_cons]
    omega
section
variable {P : Program} {ops : Array Oper} {Q : Exit → Act → World → Prop}
theorem wpAny_done : ∀ (fuel : Nat) (l : Array Bool) (a : Act) (w : World), Region.ready .any ops l = [] → Q .normal a w → wpAny P .any ops Q fuel l a w
  | 0, _, _, _, h, hq => ⟨h, hq⟩
  | _ + 1, _, _, _, h, hq => ⟨fun _ => hq, fun i hi => by rw [h] at hi; cases hi⟩
theorem ready_mem {l : Array Bool} {i : Nat} : i ∈ Region.ready .any ops l ↔ i < ops.size ∧ l.getD i true = false ∧ ∃ o, ops[i]? = some o ∧ ∀ e ∈ o.after.toList, Region.binds .any e = true → l.getD e.on false = true := by
  unfold Region.ready
  simp only [List.mem_filter, List.mem_range, Bool.and_eq_true, Bool.not_eq_true']
  constructor
  · rintro ⟨h1, h2, h3⟩
    refine ⟨h1, h2, ops[i], Array.getElem?_eq_getElem h1, ?_⟩
    rw [Array.getElem?_eq_getElem h1] at h3
    simp only [Option.map_some, Option.getD_some] at h3
    rw [← Array.all_toList, List.all_eq_true] at h3
    intro e he hb
    have := h3 e he
    rw [hb] at this
    simpa using this
  · rintro ⟨h1, h2, o, ho, h3⟩
    refine ⟨h1, h2, ?_⟩
    rw [ho]
    simp only [Option.map_some, Option.getD_some]
    rw [← Array.all_toList, List.all_eq_true]
    intro e he
    cases hb : Region.binds .any e with
    | false => rfl
    | true => simpa using h3 e he hb
/-- between two operations. -/
structure MkI (m : Nat) (D : Nat → Tmp) (F : Nat → Value → World → Prop) (a0 : Act) (w0 : World) (l : Array Bool) (a : Act) (w : World) : Prop where
  sz : l.size = m + 1
  tm : a.tmps.size = a0.tmps.size
  df : a.defers = a0.defers
  fr : ∀ t, (∀ j, j < m → t ≠ D j) → a.tmps.getD t undef = a0.tmps.getD t undef
  low : Below w0.heap.size w0 w
  last : l.getD m true = false
  got : ∀ k, k < m → l.getD k false = true → F k (a.tmps.getD (D k) undef) w
theorem getD_put {a : Act} {d t : Tmp} {v : Value} (h : d < a.tmps.size) : (a.put (some d) v).tmps.getD t undef = if t = d then v else a.tmps.getD t undef := by
  simp only [Act.put]
  by_cases e : t = d
  · subst e
    rw [if_pos rfl]
    simp [Array.getD, h]
  · rw [if_neg e]
    simp only [Array.getD_eq_getD_getElem?]
    rw [Array.getElem?_setIfInBounds_ne (fun h => e h.symm)]
theorem getD_set {l : Array Bool} {i k : Nat} {b : Bool} (h : i < l.size) : (l.setIfInBounds i true).getD k b = if k = i then true else l.getD k b := by
  by_cases e : k = i
  · subst e
    rw [if_pos rfl]
    simp [Array.getD, h]
  · rw [if_neg e]
    simp only [Array.getD_eq_getD_getElem?]
    rw [Array.getElem?_setIfInBounds_ne (fun h => e h.symm)]
variable {m : Nat} {D : Nat → Tmp} {F : Nat → Value → World → Prop} {a0 : Act} {w0 : World}
theorem wpAny_makes (hsize : ops.size = m + 1) (hac : ∀ (i : Nat) o, ops[i]? = some o → ∀ e ∈ o.after.toList, e.on < i) (hdst : ∀ (i : Nat) o, i < m → ops[i]? = some o → o.dst = some (D i))
    (hinj : ∀ i j, i < m → j < m → D i = D j → i = j) (hlt : ∀ i, i < m → D i < a0.tmps.size) (hg : ∀ (i : Nat) o, ops[i]? = some o → o.guard = none)
    (hlast : ∀ o, ops[m]? = some o → ∀ i, i < m → ∃ e ∈ o.after.toList, Region.binds .any e = true ∧ e.on = i) (hF : ∀ k v X Y, F k v X → Below X.heap.size X Y → F k v Y)
    (hstep : ∀ i o, i < m → ops[i]? = some o → ∀ a w, (∀ t, (∀ j, j < m → t ≠ D j) → a.tmps.getD t undef = a0.tmps.getD t undef) → Below w0.heap.size w0 w → (∀ e ∈ o.after.toList, Region.binds .any e = true → F e.on (a.tmps.getD (D e.on) undef) w) →
      ∀ K : Act → World → Prop, (∀ v w', Below w.heap.size w w' → F i v w' → K (a.put o.dst v) w') → o.wp P a w K Q)
    (hfin : ∀ o, ops[m]? = some o → ∀ a w, a.defers = a0.defers → a.tmps.size = a0.tmps.size → (∀ t, (∀ j, j < m → t ≠ D j) → a.tmps.getD t undef = a0.tmps.getD t undef) → Below w0.heap.size w0 w → (∀ k, k < m → F k (a.tmps.getD (D k) undef) w) → o.wp P a w (fun a' w' => Q .normal a' w') Q) :
    ∀ (fuel : Nat) (l : Array Bool) (a : Act) (w : World), MkI m D F a0 w0 l a w → l.toList.count false ≤ fuel → wpAny P .any ops Q fuel l a w
  | 0, l, a, w, h, hc => by
    exfalso
    have hm : l.toList[m]? = some false := by
      have h1 := h.last
      have h2 : m < l.size := by rw [h.sz]; omega
      rw [Array.getD_eq_getD_getElem?, Array.getElem?_eq_getElem h2] at h1
      simp only [Option.getD_some] at h1
      rw [Array.getElem?_toList, Array.getElem?_eq_getElem h2, h1]
    have := count_set l.toList m hm
    omega
  | fuel + 1, l, a, w, h, hc => by
    refine ⟨fun h0 => ?_, fun i hi => ?_⟩
    · exfalso
      -- the first one that is not listed is ready
      have key : ∀ n, n ≤ m + 1 → ∀ k, k < n → l.getD k false = true := by
        intro n
        induction n with
        | zero => intro _ k hk; omega
        | succ n ih =>
          intro hn k hk
          by_cases e : k = n
          · subst e
            cases hb : l.getD k true with
            | true =>
              have h2 : k < l.size := by rw [h.sz]; omega
              rw [Array.getD_eq_getD_getElem?, Array.getElem?_eq_getElem h2] at hb ⊢
              simpa using hb
            | false =>
              exfalso
              have hlt' : k < ops.size := by omega
              have : k ∈ Region.ready .any ops l := ready_mem.2 ⟨hlt', hb, ops[k], Array.getElem?_eq_getElem hlt', fun e he _ => ih (by omega) _ (hac k _ (Array.getElem?_eq_getElem hlt') e he)⟩
              rw [h0] at this
              cases this
          · exact ih (by omega) k (by omega)
      have h1 := key (m + 1) (Nat.le_refl _) m (by omega)
      have h2 := h.last
      have h3 : m < l.size := by rw [h.sz]; omega
      rw [Array.getD_eq_getD_getElem?, Array.getElem?_eq_getElem h3] at h1 h2
      simp only [Option.getD_some] at h1 h2
      rw [h1] at h2
      cases h2
    · obtain ⟨hi1, hi2, o, ho, hdeps⟩ := ready_mem.1 hi
      have hil : i < l.size := by rw [h.sz]; omega
      have hcnt : (l.setIfInBounds i true).toList.count false + 1 = l.toList.count false := by
        rw [Array.toList_setIfInBounds]
        refine count_set _ _ ?_
        rw [Array.getD_eq_getD_getElem?, Array.getElem?_eq_getElem hil] at hi2
        simp only [Option.getD_some] at hi2
        rw [Array.getElem?_toList, Array.getElem?_eq_getElem hil, hi2]
      have hw : Region.wanted o (yielded ops a.tmps) = true := by unfold Region.wanted; rw [hg i o ho]
      unfold wpOp
      rw [ho]
      simp only [hw, if_true]
      refine .inl ?_
      by_cases him : i = m
      · subst him
        refine Oper.wp_mono (fun a' w' hq => wpAny_done fuel _ a' w' ?_ hq) (hfin o ho a w h.df h.tm h.fr h.low fun k hk => h.got k hk ?_)
        · -- nothing is left
          refine List.eq_nil_iff_forall_not_mem.2 fun j hj => ?_
          obtain ⟨j1, j2, _⟩ := ready_mem.1 hj
          rw [getD_set hil] at j2
          split at j2
          · cases j2
          · rename_i hne
            obtain ⟨e, he, hb, hon⟩ := hlast o ho j (by omega)
            have h5 := hdeps e he hb
            rw [hon] at h5
            have hjl : j < l.size := by rw [h.sz]; omega
            rw [Array.getD_eq_getD_getElem?, Array.getElem?_eq_getElem hjl] at h5 j2
            simp only [Option.getD_some] at h5 j2
            rw [h5] at j2
            cases j2
        · obtain ⟨e, he, hb, hon⟩ := hlast o ho k hk
          have h5 := hdeps e he hb
          rw [hon] at h5
          exact h5
      · have him' : i < m := by omega
        have hd := hdst i o him' ho
        refine hstep i o him' ho a w h.fr h.low (fun e he hb => h.got e.on (by have := hac i o ho e he; omega) (hdeps e he hb)) _ fun v w' hbw hv => ?_
        rw [hd]
        have hdl : D i < a.tmps.size := by rw [h.tm]; exact hlt i him'
        refine wpAny_makes hsize hac hdst hinj hlt hg hlast hF hstep hfin fuel _ _ _ ⟨?_, ?_, h.df, fun t ht => ?_, h.low.trans (hbw.mono h.low.size), ?_, fun k hk hlk => ?_⟩ (by omega)
        · simpa using h.sz
        · simpa [Act.put] using h.tm
        · rw [getD_put hdl, if_neg (ht i him')]
          exact h.fr t ht
        · rw [getD_set hil, if_neg (fun e => him e.symm)]
          exact h.last
        · rw [getD_set hil] at hlk
          rw [getD_put hdl]
          by_cases hki : k = i
          · subst hki
            rw [if_pos rfl]
            exact hv
          · rw [if_neg hki] at hlk
            rw [if_neg fun e => hki (hinj k i hk him' e)]
            exact hF k _ _ _ (h.got k hk hlk) hbw
theorem wp_region_makes {id : Nat} (hm : P.follows .mixedOrders = true) (hsize : ops.size = m + 1) (hac : ∀ (i : Nat) o, ops[i]? = some o → ∀ e ∈ o.after.toList, e.on < i) (hdst : ∀ (i : Nat) o, i < m → ops[i]? = some o → o.dst = some (D i))
    (hinj : ∀ i j, i < m → j < m → D i = D j → i = j) (hlt : ∀ i, i < m → D i < a0.tmps.size) (hg : ∀ (i : Nat) o, ops[i]? = some o → o.guard = none)
    (hlast : ∀ o, ops[m]? = some o → ∀ i, i < m → ∃ e ∈ o.after.toList, Region.binds .any e = true ∧ e.on = i) (hF : ∀ k v X Y, F k v X → Below X.heap.size X Y → F k v Y)
    (hstep : ∀ i o, i < m → ops[i]? = some o → ∀ a w, (∀ t, (∀ j, j < m → t ≠ D j) → a.tmps.getD t undef = a0.tmps.getD t undef) → Below w0.heap.size w0 w → (∀ e ∈ o.after.toList, Region.binds .any e = true → F e.on (a.tmps.getD (D e.on) undef) w) →
      ∀ K : Act → World → Prop, (∀ v w', Below w.heap.size w w' → F i v w' → K (a.put o.dst v) w') → o.wp P a w K Q)
    (hfin : ∀ o, ops[m]? = some o → ∀ a w, a.defers = a0.defers → a.tmps.size = a0.tmps.size → (∀ t, (∀ j, j < m → t ≠ D j) → a.tmps.getD t undef = a0.tmps.getD t undef) → Below w0.heap.size w0 w → (∀ k, k < m → F k (a.tmps.getD (D k) undef) w) → o.wp P a w (fun a' w' => Q .normal a' w') Q) :
    (Code.region id ops true).wp P Q a0 w0 := by
  refine wp_region_any hm (wpAny_makes hsize hac hdst hinj hlt hg hlast hF hstep hfin _ _ _ _ ⟨by simp [hsize], rfl, rfl, fun _ _ => rfl, (Below.refl _ _).drew, ?_, fun k hk h => ?_⟩ ?_)
  · simp [Array.getD, hsize]
  · exfalso
    have : k < m + 1 := by omega
    simp [Array.getD, hsize, this] at h
  · simp
end
end Go.Proofs.YtlfakhjcpdkaiaaDoor

set_option linter.unusedVariables false
set_option linter.unusedSimpArgs false
namespace Go.Proofs.YtlfakhjcpdkaiaaDoor
open Go.RowKit Go.Deep Go.Shelf

set_option maxRecDepth 100000 in
theorem v_any (s : ByteArray) (w : World) : Calls Tryd.prog 18 #[.string s] w fun e w' => e = .returned (.agg #[.int .i64 0, .string s, .int .i64 0, .int .i64 0, .string noText, .slice none 0 0]) ∧ w' = w.alloc (.cells #[.int .i64 0, .string s, .int .i64 0, .int .i64 0, .string noText, .slice none 0 0] 29) := by
  go_enter Tryd.func18, Tryd.ntmps18
  go_wp2
  exact bodyPost_ret (v := .agg #[.int .i64 0, .string s, .int .i64 0, .int .i64 0, .string noText, .slice none 0 0]) (by simp [results, Tryd.results18, go_sem]) rfl ⟨rfl, rfl⟩
/-- texts in a row. -/
def TxRow (w : World) (A : Option Addr) (L : List ByteArray) : Prop := 0 < L.length → ∃ b o, A = some ⟨b, o, none⟩ ∧ b < w.heap.size ∧ ∀ (i : Nat) x, L[i]? = some x → w.cell? ⟨b, o + i, none⟩ = some (.string x)
theorem TxRow.own {w : World} {base : Nat} {e : TypeId} {A : Option Addr} {c : Nat} {L : List ByteArray} (h : w.ownsRow base e 1 (.slice A L.length c) L.length (L.map Value.string)) : TxRow w A L := fun h0 => by
  rcases h.2 with ⟨h1, h2⟩ | ⟨g, cap, cur, h1, hg, hc, hcap, _, hcs, htake⟩
  · omega
  · injection h1 with h1 _ _
    subst h1
    refine ⟨g, 0, rfl, (Array.getElem?_eq_some_iff.1 hc).1, fun i y hy => ?_⟩
    have hu : (L.map Value.string)[i]? = some (.string y) := by rw [List.getElem?_map, hy]; rfl
    rw [Nat.zero_add, cell_of_row w g i cur e (0, 0) hc]
    rw [← htake, List.getElem?_take] at hu
    split at hu
    · simpa using hu
    · cases hu
theorem TxRow.pers {w w' : World} {A : Option Addr} {L : List ByteArray} (h : TxRow w A L) (hp : Pers w w') : TxRow w' A L := fun h0 => by
  obtain ⟨b, o, h1, h2, h3⟩ := h h0
  exact ⟨b, o, h1, Nat.lt_of_lt_of_le h2 hp.1, fun i x hx => hp.2 _ _ (h3 i x hx)⟩
set_option maxRecDepth 100000 in
set_option maxHeartbeats 400000 in
theorem Texts_same (A A' : Option Addr) (c c' : Nat) (L : List ByteArray) (w : World) (hl : L.length ≤ 100000) (hr : TxRow w A L) (hr' : TxRow w A' L) :
    Calls Tryd.prog 19 #[.slice A L.length c, .slice A' L.length c'] w fun e w' => e = .returned (.bool true) ∧ Below w.heap.size w w' := by
  have HR := Lib.hid hr
  have HR' := Lib.hid hr'
  clear hr hr'
  go_enter Tryd.func19, Tryd.ntmps19
  go_wp2_with fail
  go_loopw [13] (fun i wr => ∃ j : Nat, j ≤ L.length ∧ i = .int .i64 j ∧ Hid (Below w.heap.size w wr)) (fun i _ => L.length - (intOf i).toNat)
  case atStart => exact ⟨0, Nat.zero_le _, rfl, Lib.hid (Below.refl _ _)⟩
  case round =>
    obtain ⟨j, hj, rfl, HB⟩ := hrel
    by_cases hlt : j < L.length
    · obtain ⟨b, o, rfl, hbw, hc⟩ := HR.out (by omega)
      obtain ⟨b', o', rfl, hbw', hc'⟩ := HR'.out (by omega)
      have c0 := (HB.out.cell (p := ⟨b, o + j, none⟩) hbw).trans (hc j _ (List.getElem?_eq_getElem hlt))
      have d0 := (HB.out.cell (p := ⟨b', o' + j, none⟩) hbw').trans (hc' j _ (List.getElem?_eq_getElem hlt))
      clear hc hc'
      generalize L[j] = y at *
      go_wp2_with fail
      go_quiet (fail)
      go_wp2_with fail
      go_roundw
      case rel => exact ⟨j + 1, by omega, by go_num, below_drewN HB.out _⟩
      case measure => simp [intOf]; omega
    · go_wp2_with fail
      go_ret
      exact ⟨rfl, HB.out⟩

section
variable {ops : Array Oper} {m : Nat} {D : Nat → Tmp}
theorem ac_of (h : ((List.range ops.size).all fun i => ((ops[i]?).map fun o => o.after.toList.all fun e => decide (e.on < i)).getD true) = true) : ∀ (i : Nat) o, ops[i]? = some o → ∀ e ∈ o.after.toList, e.on < i := by
  intro i o ho e he
  have h1 := List.all_eq_true.1 h i (List.mem_range.2 (Array.getElem?_eq_some_iff.1 ho).1)
  rw [ho] at h1
  simp only [Option.map_some, Option.getD_some] at h1
  exact of_decide_eq_true (List.all_eq_true.1 h1 e he)
theorem dst_of (h : ((List.range m).all fun i => ((ops[i]?).map fun o => decide (o.dst = some (D i))).getD false) = true) : ∀ (i : Nat) o, i < m → ops[i]? = some o → o.dst = some (D i) := by
  intro i o hi ho
  have h1 := List.all_eq_true.1 h i (List.mem_range.2 hi)
  rw [ho] at h1
  simp only [Option.map_some, Option.getD_some] at h1
  exact of_decide_eq_true h1
theorem inj_of (h : ((List.range m).all fun i => (List.range m).all fun j => decide (D i = D j → i = j)) = true) : ∀ i j, i < m → j < m → D i = D j → i = j := fun i j hi hj =>
  of_decide_eq_true (List.all_eq_true.1 (List.all_eq_true.1 h i (List.mem_range.2 hi)) j (List.mem_range.2 hj))
theorem lt_of {n : Nat} (h : ((List.range m).all fun i => decide (D i < n)) = true) : ∀ i, i < m → D i < n := fun i hi => of_decide_eq_true (List.all_eq_true.1 h i (List.mem_range.2 hi))
theorem guard_of (h : ((List.range ops.size).all fun i => ((ops[i]?).map fun o => o.guard.isNone).getD true) = true) : ∀ (i : Nat) o, ops[i]? = some o → o.guard = none := by
  intro i o ho
  have h1 := List.all_eq_true.1 h i (List.mem_range.2 (Array.getElem?_eq_some_iff.1 ho).1)
  rw [ho] at h1
  simpa using h1
theorem last_of (h : (((ops[m]?).map fun o => (List.range m).all fun i => o.after.toList.any fun e => Region.binds .any e && decide (e.on = i)).getD true) = true) : ∀ o, ops[m]? = some o → ∀ i, i < m → ∃ e ∈ o.after.toList, Region.binds .any e = true ∧ e.on = i := by
  intro o ho i hi
  rw [ho] at h
  simp only [Option.map_some, Option.getD_some] at h
  have h1 := List.all_eq_true.1 h i (List.mem_range.2 hi)
  obtain ⟨e, he, h2⟩ := List.any_eq_true.1 h1
  rw [Bool.and_eq_true] at h2
  exact ⟨e, he, h2.1, of_decide_eq_true h2.2⟩
end

def tX : TTm := ⟨⟨#[88]⟩, 0, 0, noText⟩
def tY : TTm := ⟨⟨#[89]⟩, 0, 0, noText⟩
def tZ : TTm := ⟨⟨#[90]⟩, 0, 0, noText⟩
def eX : TEx := .mk 0 tX []
def eZ : TEx := .mk 0 tZ []
def e0 : TEx := .mk 0 zT []
def lt1 : TLt := ⟨1, ⟨⟨#[113]⟩, [tY, tZ]⟩, 0, e0, e0, 0⟩
def lt2 : TLt := ⟨3, ⟨noText, []⟩, 1, eX, eZ, 0⟩
def ru0 : TRu := ⟨⟨⟨#[112]⟩, [tX, tY]⟩, 0, 0, [lt1, lt2], 0⟩
theorem ru0_names : names [] (termsRu ru0) = [⟨#[88]⟩, ⟨#[89]⟩, ⟨#[90]⟩] := by decide +kernel
theorem ru0_right : rightRu ru0 = true := by decide +kernel
theorem var_X : soleB 3 ⟨#[88]⟩ = true := by decide +kernel
theorem var_x : soleB 3 ⟨#[120]⟩ = false := by decide +kernel
theorem ok_small {t : TTm} (h1 : t.v.size ≤ 10) (h2 : t.s.size ≤ 10) : okTm t := ⟨by omega, by omega⟩
theorem okX : okTm tX := ok_small (by decide) (by decide)
theorem okY : okTm tY := ok_small (by decide) (by decide)
theorem okZ : okTm tZ := ok_small (by decide) (by decide)
theorem ok0 : okTm zT := ok_small (by decide) (by decide)
theorem leafV {w : World} {t : TTm} (h : okTm t) : ExV w (.mk 0 t []) none := ⟨h, Rg.nil⟩
def alD (k : Nat) : Nat := ([8, 9, 10, 11, 12, 13, 14, 15, 16, 17, 18, 19, 20, 21, 4] : List Nat).getD k 0
/-- what is known of each value of the example's region. -/
def AlF (w0 : World) : Nat → Value → World → Prop
  | 0, v, _ => v = .agg #[.string ⟨#[88]⟩, .int .i64 0, .int .i64 0, .string noText]
  | 1, v, _ => v = .agg #[.string ⟨#[89]⟩, .int .i64 0, .int .i64 0, .string noText]
  | 2, v, w => ∃ b, v = .slice (some ⟨b, 0, none⟩) 2 2 ∧ Rg 4 TmC w (some ⟨b, 0, none⟩) [tX, tY]
  | 3, v, w => ∃ b, v = .agg #[.string ⟨#[112]⟩, .slice (some ⟨b, 0, none⟩) 2 2] ∧ Rg 4 TmC w (some ⟨b, 0, none⟩) [tX, tY]
  | 4, v, _ => v = .agg #[.string ⟨#[89]⟩, .int .i64 0, .int .i64 0, .string noText]
  | 5, v, _ => v = .agg #[.string ⟨#[90]⟩, .int .i64 0, .int .i64 0, .string noText]
  | 6, v, w => ∃ b, v = .slice (some ⟨b, 0, none⟩) 2 2 ∧ Rg 4 TmC w (some ⟨b, 0, none⟩) [tY, tZ]
  | 7, v, w => ∃ b, v = .agg #[.string ⟨#[113]⟩, .slice (some ⟨b, 0, none⟩) 2 2] ∧ Rg 4 TmC w (some ⟨b, 0, none⟩) [tY, tZ]
  | 8, v, w => ∃ b, v = .agg #[.int .i64 1, .string ⟨#[113]⟩, .slice (some ⟨b, 0, none⟩) 2 2, .int .i64 0, .int .i64 0, .string noText, .int .i64 0, .int .i64 0, .string noText, .slice none 0 0, .int .i64 0, .string noText, .int .i64 0, .int .i64 0, .string noText, .slice none 0 0, .int .i64 0] ∧ Rg 4 TmC w (some ⟨b, 0, none⟩) [tY, tZ]
  | 9, v, _ => v = .agg #[.int .i64 0, .string ⟨#[88]⟩, .int .i64 0, .int .i64 0, .string noText, .slice none 0 0]
  | 10, v, _ => v = .agg #[.int .i64 0, .string ⟨#[90]⟩, .int .i64 0, .int .i64 0, .string noText, .slice none 0 0]
  | 11, v, _ => v = .agg #[.int .i64 3, .string noText, .slice none 0 0, .int .i64 1, .int .i64 0, .string ⟨#[88]⟩, .int .i64 0, .int .i64 0, .string noText, .slice none 0 0, .int .i64 0, .string ⟨#[90]⟩, .int .i64 0, .int .i64 0, .string noText, .slice none 0 0, .int .i64 0]
  | 12, v, w => ∃ b, v = .slice (some ⟨b, 0, none⟩) 2 2 ∧ Rg 17 LtC w (some ⟨b, 0, none⟩) [lt1, lt2]
  | 13, v, w => ∃ b g, v = .agg #[.string ⟨#[112]⟩, .slice (some ⟨b, 0, none⟩) 2 2, .int .i64 0, .int .i64 0, .slice (some ⟨g, 0, none⟩) 2 2, .int .i64 0] ∧ RuV w ru0 (some ⟨b, 0, none⟩) (some ⟨g, 0, none⟩)
  | 14, v, w => ∃ b, v = .pointer (some ⟨b, 0, none⟩) ∧ Own w b 56 [.string noText, .slice none 0 0, .int .i64 0, .int .i64 0, .slice none 0 0, .int .i64 0] ∧ w0.heap.size ≤ b
  | _, _, _ => False
theorem AlF.keep {w0 : World} : ∀ k v X Y, AlF w0 k v X → Below X.heap.size X Y → AlF w0 k v Y
  | 0, _, _, _, h, _ => h
  | 1, _, _, _, h, _ => h
  | 2, _, _, _, ⟨b, h1, h2⟩, hb => ⟨b, h1, h2.tm (.of hb)⟩
  | 3, _, _, _, ⟨b, h1, h2⟩, hb => ⟨b, h1, h2.tm (.of hb)⟩
  | 4, _, _, _, h, _ => h
  | 5, _, _, _, h, _ => h
  | 6, _, _, _, ⟨b, h1, h2⟩, hb => ⟨b, h1, h2.tm (.of hb)⟩
  | 7, _, _, _, ⟨b, h1, h2⟩, hb => ⟨b, h1, h2.tm (.of hb)⟩
  | 8, _, _, _, ⟨b, h1, h2⟩, hb => ⟨b, h1, h2.tm (.of hb)⟩
  | 9, _, _, _, h, _ => h
  | 10, _, _, _, h, _ => h
  | 11, _, _, _, h, _ => h
  | 12, _, _, _, ⟨b, h1, h2⟩, hb => ⟨b, h1, h2.lt (.of hb)⟩
  | 13, _, _, _, ⟨b, g, h1, h2⟩, hb => ⟨b, g, h1, h2.below hb⟩
  | 14, _, _, _, ⟨b, h1, h2, h3⟩, hb => ⟨b, h1, h2.below hb, h3⟩
  | _ + 15, _, _, _, h, _ => h
theorem mk_val {P : Program} {o : Oper} {a : Act} {w w' : World} {K : Act → World → Prop} {Q : Exit → Act → World → Prop} {v : Value} (h : (execOp a.eval o).run P w = .ok (.value v) w') (hK : K (a.put o.dst v) w') : o.wp P a w K Q := by
  unfold Oper.wp
  rw [h]
  exact hK
theorem mk_call {P : Program} {o : Oper} {a : Act} {w : World} {K : Act → World → Prop} {Q : Exit → Act → World → Prop} {f : FuncId} {args : Array Value} (h : (execOp a.eval o).run P w = .ok (.enter f args) w)
    (hc : Calls P f args w fun e w' => ∃ v, e = .returned v ∧ K (a.put o.dst v) w') : o.wp P a w K Q := by
  unfold Oper.wp
  rw [h]
  refine hc.mono ?_
  rintro e w' ⟨v, rfl, hk⟩
  exact hk
theorem tm_row2 {w : World} {x y : TTm} (hx : okTm x) (hy : okTm y) (E : TypeId) : Rg 4 TmC (w.alloc (.cells #[.string x.v, .int .i64 x.k, .int .i64 x.n, .string x.s, .string y.v, .int .i64 y.k, .int .i64 y.n, .string y.s] E)) (some ⟨w.heap.size, 0, none⟩) [x, y] := by
  refine ⟨by simp, fun _ => ⟨w.heap.size, 0, rfl, by simp, fun i t ht => ?_⟩⟩
  match i, ht with
  | 0, ht =>
    simp only [List.getElem?_cons_zero, Option.some.injEq] at ht
    subst ht
    exact ⟨by simp, by simp, by simp, by simp, hx⟩
  | 1, ht =>
    simp only [List.getElem?_cons_succ, List.getElem?_cons_zero, Option.some.injEq] at ht
    subst ht
    exact ⟨by simp, by simp, by simp, by simp, hy⟩
  | n + 2, ht => simp at ht
theorem lt_row2 {w : World} {b : Nat} (hr : Rg 4 TmC w (some ⟨b, 0, none⟩) [tY, tZ]) : Rg 17 LtC (w.alloc (.cells #[.int .i64 1, .string ⟨#[113]⟩, .slice (some ⟨b, 0, none⟩) 2 2, .int .i64 0, .int .i64 0, .string noText, .int .i64 0, .int .i64 0, .string noText, .slice none 0 0, .int .i64 0, .string noText, .int .i64 0, .int .i64 0, .string noText, .slice none 0 0, .int .i64 0, .int .i64 3, .string noText, .slice none 0 0, .int .i64 1, .int .i64 0, .string ⟨#[88]⟩, .int .i64 0, .int .i64 0, .string noText, .slice none 0 0, .int .i64 0, .string ⟨#[90]⟩, .int .i64 0, .int .i64 0, .string noText, .slice none 0 0, .int .i64 0] 63)) (some ⟨w.heap.size, 0, none⟩) [lt1, lt2] := by
  have hb : Below w.heap.size w (w.alloc (.cells #[.int .i64 1, .string ⟨#[113]⟩, .slice (some ⟨b, 0, none⟩) 2 2, .int .i64 0, .int .i64 0, .string noText, .int .i64 0, .int .i64 0, .string noText, .slice none 0 0, .int .i64 0, .string noText, .int .i64 0, .int .i64 0, .string noText, .slice none 0 0, .int .i64 0, .int .i64 3, .string noText, .slice none 0 0, .int .i64 1, .int .i64 0, .string ⟨#[88]⟩, .int .i64 0, .int .i64 0, .string noText, .slice none 0 0, .int .i64 0, .string ⟨#[90]⟩, .int .i64 0, .int .i64 0, .string noText, .slice none 0 0, .int .i64 0] 63)) := (Below.refl _ _).alloc (Nat.le_refl _) _
  have hO : Own (w.alloc (.cells #[.int .i64 1, .string ⟨#[113]⟩, .slice (some ⟨b, 0, none⟩) 2 2, .int .i64 0, .int .i64 0, .string noText, .int .i64 0, .int .i64 0, .string noText, .slice none 0 0, .int .i64 0, .string noText, .int .i64 0, .int .i64 0, .string noText, .slice none 0 0, .int .i64 0, .int .i64 3, .string noText, .slice none 0 0, .int .i64 1, .int .i64 0, .string ⟨#[88]⟩, .int .i64 0, .int .i64 0, .string noText, .slice none 0 0, .int .i64 0, .string ⟨#[90]⟩, .int .i64 0, .int .i64 0, .string noText, .slice none 0 0, .int .i64 0] 63)) w.heap.size 63 [.int .i64 1, .string ⟨#[113]⟩, .slice (some ⟨b, 0, none⟩) 2 2, .int .i64 0, .int .i64 0, .string noText, .int .i64 0, .int .i64 0, .string noText, .slice none 0 0, .int .i64 0, .string noText, .int .i64 0, .int .i64 0, .string noText, .slice none 0 0, .int .i64 0, .int .i64 3, .string noText, .slice none 0 0, .int .i64 1, .int .i64 0, .string ⟨#[88]⟩, .int .i64 0, .int .i64 0, .string noText, .slice none 0 0, .int .i64 0, .string ⟨#[90]⟩, .int .i64 0, .int .i64 0, .string noText, .slice none 0 0, .int .i64 0] := heap_alloc_new _ _
  refine ⟨by simp, fun _ => ⟨w.heap.size, 0, rfl, by simp, fun i t ht => ?_⟩⟩
  match i, ht with
  | 0, ht =>
    simp only [List.getElem?_cons_zero, Option.some.injEq] at ht
    subst ht
    exact LtC.shut (A := some ⟨b, 0, none⟩) (c := 2) (L := none) (d := 0) (R := none) (f := 0) ⟨hO.cell 0, hO.cell 1, hO.cell 2, hO.cell 3, ⟨hO.cell 4, hO.cell 5, hO.cell 6, hO.cell 7, hO.cell 8, hO.cell 9⟩, ⟨hO.cell 10, hO.cell 11, hO.cell 12, hO.cell 13, hO.cell 14, hO.cell 15⟩, hO.cell 16⟩
      ⟨⟨by decide, hr.tm (.of hb)⟩, leafV ok0, leafV ok0, by decide, by decide⟩
  | 1, ht =>
    simp only [List.getElem?_cons_succ, List.getElem?_cons_zero, Option.some.injEq] at ht
    subst ht
    exact LtC.shut (A := none) (c := 0) (L := none) (d := 0) (R := none) (f := 0) ⟨hO.cell 17, hO.cell 18, hO.cell 19, hO.cell 20, ⟨hO.cell 21, hO.cell 22, hO.cell 23, hO.cell 24, hO.cell 25, hO.cell 26⟩, ⟨hO.cell 27, hO.cell 28, hO.cell 29, hO.cell 30, hO.cell 31, hO.cell 32⟩, hO.cell 33⟩
      ⟨⟨by decide, Rg.nil⟩, leafV okX, leafV okZ, by decide, by decide⟩
  | n + 2, ht => simp at ht
theorem cons_of {α : Type} {n : Nat} : ∀ {l : List α}, l.length = n + 1 → ∃ x r, l = x :: r ∧ r.length = n
  | x :: r, h => ⟨x, r, rfl, by simpa using h⟩
theorem al_own (w : World) : Own (((w.alloc (.cells #[.string ⟨#[88]⟩, .int .i64 0, .int .i64 0, .string noText] 26)).alloc (.cells #[.string ⟨#[89]⟩, .int .i64 0, .int .i64 0, .string noText] 26)).alloc (.cells #[.string ⟨#[90]⟩, .int .i64 0, .int .i64 0, .string noText] 26)) w.heap.size 26 [.string ⟨#[88]⟩, .int .i64 0, .int .i64 0, .string noText] ∧ Own (((w.alloc (.cells #[.string ⟨#[88]⟩, .int .i64 0, .int .i64 0, .string noText] 26)).alloc (.cells #[.string ⟨#[89]⟩, .int .i64 0, .int .i64 0, .string noText] 26)).alloc (.cells #[.string ⟨#[90]⟩, .int .i64 0, .int .i64 0, .string noText] 26)) (w.heap.size + 1) 26 [.string ⟨#[89]⟩, .int .i64 0, .int .i64 0, .string noText] ∧ Own (((w.alloc (.cells #[.string ⟨#[88]⟩, .int .i64 0, .int .i64 0, .string noText] 26)).alloc (.cells #[.string ⟨#[89]⟩, .int .i64 0, .int .i64 0, .string noText] 26)).alloc (.cells #[.string ⟨#[90]⟩, .int .i64 0, .int .i64 0, .string noText] 26)) (w.heap.size + 1 + 1) 26 [.string ⟨#[90]⟩, .int .i64 0, .int .i64 0, .string noText] ∧ (((w.alloc (.cells #[.string ⟨#[88]⟩, .int .i64 0, .int .i64 0, .string noText] 26)).alloc (.cells #[.string ⟨#[89]⟩, .int .i64 0, .int .i64 0, .string noText] 26)).alloc (.cells #[.string ⟨#[90]⟩, .int .i64 0, .int .i64 0, .string noText] 26)).heap.size = w.heap.size + 3 := by
  have a0 : Own (w.alloc (.cells #[.string ⟨#[88]⟩, .int .i64 0, .int .i64 0, .string noText] 26)) w.heap.size 26 [.string ⟨#[88]⟩, .int .i64 0, .int .i64 0, .string noText] := heap_alloc_new _ _
  have a1 := heap_alloc_new (w.alloc (.cells #[.string ⟨#[88]⟩, .int .i64 0, .int .i64 0, .string noText] 26)) (.cells #[.string ⟨#[89]⟩, .int .i64 0, .int .i64 0, .string noText] 26)
  have a2 := heap_alloc_new ((w.alloc (.cells #[.string ⟨#[88]⟩, .int .i64 0, .int .i64 0, .string noText] 26)).alloc (.cells #[.string ⟨#[89]⟩, .int .i64 0, .int .i64 0, .string noText] 26)) (.cells #[.string ⟨#[90]⟩, .int .i64 0, .int .i64 0, .string noText] 26)
  simp only [World.size_alloc] at a1 a2
  have a1' : Own ((w.alloc (.cells #[.string ⟨#[88]⟩, .int .i64 0, .int .i64 0, .string noText] 26)).alloc (.cells #[.string ⟨#[89]⟩, .int .i64 0, .int .i64 0, .string noText] 26)) (w.heap.size + 1) 26 [.string ⟨#[89]⟩, .int .i64 0, .int .i64 0, .string noText] := a1
  exact ⟨(a0.alloc _).alloc _, a1'.alloc _, a2, by simp⟩
section
variable {X Y : World} {b4 : Nat}
/-- a store into the new rule's block leaves its parts as they are. -/
theorem tm_off (hs : X.heap.size ≤ Y.heap.size) (hX : ∀ b i v, b ≠ b4 → X.cell? ⟨b, i, none⟩ = some v → Y.cell? ⟨b, i, none⟩ = some v) {A : Option Addr} {l : List TTm} (h : Rg 4 TmC X A l) (hne : 0 < l.length → ∀ a, A = some a → a.block ≠ b4) : Rg 4 TmC Y A l :=
  ⟨h.1, fun h0 => by
    obtain ⟨b, o, h1, h2, h3⟩ := h.2 h0
    have hb := hne h0 _ h1
    exact ⟨b, o, h1, Nat.lt_of_lt_of_le h2 hs, fun i y hy => by
      obtain ⟨c0, c1, c2, c3, hk⟩ := h3 i y hy
      exact ⟨hX _ _ _ hb c0, hX _ _ _ hb c1, hX _ _ _ hb c2, hX _ _ _ hb c3, hk⟩⟩⟩
theorem row_ne4 (hO : Own X b4 56 [.string noText, .slice none 0 0, .int .i64 0, .int .i64 0, .slice none 0 0, .int .i64 0]) {A : Option Addr} {x y : TTm} (h : Rg 4 TmC X A [x, y]) (hx : x.v ≠ noText) : ∀ a, A = some a → a.block ≠ b4 := by
  intro a ha e
  obtain ⟨b, o, h1, _, h3⟩ := h.2 (by simp)
  rw [ha] at h1
  injection h1 with h1
  subst h1
  have hb : b = b4 := e
  subst hb
  have h4 := (h3 0 x rfl).1
  rw [Nat.zero_mul, Nat.add_zero, hO.cell] at h4
  match o, h4 with
  | 0, h4 => simp at h4; exact hx h4.symm
  | 1, h4 => simp at h4
  | 2, h4 => simp at h4
  | 3, h4 => simp at h4
  | 4, h4 => simp at h4
  | 5, h4 => simp at h4
  | n + 6, h4 => simp at h4
theorem lt_off (hs : X.heap.size ≤ Y.heap.size) (hX : ∀ b i v, b ≠ b4 → X.cell? ⟨b, i, none⟩ = some v → Y.cell? ⟨b, i, none⟩ = some v) {g o : Nat} {x : TLt} (hg : g ≠ b4) (h : LtC X g o x) (hl : x.left.kids = []) (hr : x.right.kids = []) (hne : 0 < x.atom.args.length → ∀ A, Rg 4 TmC X A x.atom.args → ∀ a, A = some a → a.block ≠ b4) : LtC Y g o x := by
  obtain ⟨AA, ac, L, d, R, f, ⟨c0, c1, c2, c3, ⟨c4, c5, c6, c7, c8, c9⟩, ⟨d0, d1, d2, d3, d4, d5⟩, c16⟩, hv⟩ := h.open_
  refine LtC.shut (A := AA) (c := ac) (L := L) (d := d) (R := R) (f := f) ⟨hX _ _ _ hg c0, hX _ _ _ hg c1, hX _ _ _ hg c2, hX _ _ _ hg c3, ⟨hX _ _ _ hg c4, hX _ _ _ hg c5, hX _ _ _ hg c6, hX _ _ _ hg c7, hX _ _ _ hg c8, hX _ _ _ hg c9⟩, ⟨hX _ _ _ hg d0, hX _ _ _ hg d1, hX _ _ _ hg d2, hX _ _ _ hg d3, hX _ _ _ hg d4, hX _ _ _ hg d5⟩, hX _ _ _ hg c16⟩
    ⟨⟨hv.am.ok, tm_off hs hX hv.am.row fun h0 => hne h0 _ hv.am.row⟩, ⟨hv.left.ok, by rw [hl]; exact Rg.nil⟩, ⟨hv.right.ok, by rw [hr]; exact Rg.nil⟩, hv.lo, hv.hi⟩
theorem ru_off (hO : Own X b4 56 [.string noText, .slice none 0 0, .int .i64 0, .int .i64 0, .slice none 0 0, .int .i64 0]) (hs : X.heap.size ≤ Y.heap.size) (hX : ∀ b i v, b ≠ b4 → X.cell? ⟨b, i, none⟩ = some v → Y.cell? ⟨b, i, none⟩ = some v) {b g : Nat} (h : RuV X ru0 (some ⟨b, 0, none⟩) (some ⟨g, 0, none⟩)) : RuV Y ru0 (some ⟨b, 0, none⟩) (some ⟨g, 0, none⟩) := by
  have hr : Rg 17 LtC X (some ⟨g, 0, none⟩) [lt1, lt2] := h.row
  have hg : g ≠ b4 := by
    intro e
    subst e
    obtain ⟨g', o', h1, _, h3⟩ := hr.2 (by simp)
    injection h1 with h1
    injection h1 with h1 h2 _
    subst h1 h2
    have h4 := (h3 0 lt1 rfl).1
    rw [Nat.zero_mul, Nat.add_zero, hO.cell] at h4
    simp at h4
  refine ⟨⟨h.am.ok, tm_off hs hX h.am.row fun _ => row_ne4 (x := tX) (y := tY) hO h.am.row (by decide)⟩, hr.1, fun h0 => ?_⟩
  obtain ⟨g', o', h1, h2, h3⟩ := hr.2 (by simp)
  injection h1 with h1
  injection h1 with h11 h12 _
  subst h11 h12
  refine ⟨g, 0, rfl, Nat.lt_of_lt_of_le h2 hs, fun i y hy => ?_⟩
  match i, hy with
  | 0, hy =>
    cases hy
    exact lt_off hs hX hg (h3 0 lt1 rfl) rfl rfl fun _ A hA => row_ne4 (x := tY) (y := tZ) hO hA (by decide)
  | 1, hy =>
    cases hy
    exact lt_off hs hX hg (h3 1 lt2 rfl) rfl rfl fun h0 => absurd h0 (by decide)
  | n + 2, hy => exact absurd hy (by simp [ru0])
end
theorem infoRu : (Tryd.prog.info? 56).map (·.size) = some 6 := by kernel_rfl
theorem infoTm4 : (Tryd.prog.info? 26).map (·.size) = some 4 := by kernel_rfl

set_option maxRecDepth 100000 in
set_option maxHeartbeats 4000000 in
theorem alive_any (w : World) (hL : Lays w) : Calls Tryd.prog 5 #[] w fun e w' => e = .returned (.bool true) ∧ Below w.heap.size w w' := by
  have mixed : Tryd.prog.follows .mixedOrders = true := by kernel_rfl
  have HL := Lib.hid hL
  clear hL
  have HO := Lib.hid (al_own w)
  go_enter Tryd.func5, Tryd.ntmps5
  go_wp2_with fail
  rename_i Q1 K1 hK1
  refine wp_region_makes (m := 15) (D := alD) (F := AlF w) mixed rfl ?hac ?hdst ?hinj ?hlt ?hg ?hlast AlF.keep ?hstep ?hfin
  case hac => exact ac_of (by kernel_rfl)
  case hdst => exact dst_of (by kernel_rfl)
  case hinj => exact inj_of (by kernel_rfl)
  case hlt =>
    intro i hi
    exact lt_of (n := 37) (by kernel_rfl) i hi
  case hg => exact guard_of (by kernel_rfl)
  case hlast => exact last_of (by kernel_rfl)
  case hstep =>
    intro i o hi ho a w1 hfr hlow hdep K hK
    obtain ⟨hO1, hO2, hO3, hsz0⟩ := HO.out
    have hlow0 : w.heap.size ≤ w1.heap.size := Nat.le_trans (by rw [hsz0]; omega) hlow.size
    match i, hi with
    | 0, _ =>
      simp only [List.getElem?_toArray, List.getElem?_cons_zero, List.getElem?_cons_succ, Option.some.injEq] at ho
      subst ho
      have h1 : a.tmps.getD 1 undef = .pointer (some ⟨w.heap.size, 0, none⟩) := (hfr 1 (by decide)).trans rfl
      refine mk_val (v := .agg #[.string ⟨#[88]⟩, .int .i64 0, .int .i64 0, .string noText]) (w' := w1) ?_ (hK _ _ (Below.refl _ _) rfl)
      simp only [execOp, Act.eval, h1, Instr.loadAt, Instr.sureAddr, Sem.run_bind, Sem.run_pure, Result.andThen_ok]
      rw [run_loadVar_at w1 (w.heap.size) 0 26 [.string ⟨#[88]⟩, .int .i64 0, .int .i64 0, .string noText] _ ?_ Tryd.underlying26 rfl infoTm4]
      · rfl
      · intro j v hv
        refine (hlow.cell (p := ⟨w.heap.size, 0 + j, none⟩) (by rw [hsz0]; simp; try omega)).trans ?_
        match j, hv with
        | 0, hv => cases hv; exact hO1.cell 0
        | 1, hv => cases hv; exact hO1.cell 1
        | 2, hv => cases hv; exact hO1.cell 2
        | 3, hv => cases hv; exact hO1.cell 3
        | n + 4, hv => simp at hv
    | 1, _ =>
      simp only [List.getElem?_toArray, List.getElem?_cons_zero, List.getElem?_cons_succ, Option.some.injEq] at ho
      subst ho
      have h1 : a.tmps.getD 2 undef = .pointer (some ⟨w.heap.size + 1, 0, none⟩) := (hfr 2 (by decide)).trans rfl
      refine mk_val (v := .agg #[.string ⟨#[89]⟩, .int .i64 0, .int .i64 0, .string noText]) (w' := w1) ?_ (hK _ _ (Below.refl _ _) rfl)
      simp only [execOp, Act.eval, h1, Instr.loadAt, Instr.sureAddr, Sem.run_bind, Sem.run_pure, Result.andThen_ok]
      rw [run_loadVar_at w1 (w.heap.size + 1) 0 26 [.string ⟨#[89]⟩, .int .i64 0, .int .i64 0, .string noText] _ ?_ Tryd.underlying26 rfl infoTm4]
      · rfl
      · intro j v hv
        refine (hlow.cell (p := ⟨w.heap.size + 1, 0 + j, none⟩) (by rw [hsz0]; simp; try omega)).trans ?_
        match j, hv with
        | 0, hv => cases hv; exact hO2.cell 0
        | 1, hv => cases hv; exact hO2.cell 1
        | 2, hv => cases hv; exact hO2.cell 2
        | 3, hv => cases hv; exact hO2.cell 3
        | n + 4, hv => simp at hv
    | 2, _ =>
      simp only [List.getElem?_toArray, List.getElem?_cons_zero, List.getElem?_cons_succ, Option.some.injEq] at ho
      subst ho
      have h8 : a.tmps.getD 8 undef = .agg #[.string ⟨#[88]⟩, .int .i64 0, .int .i64 0, .string noText] := hdep ⟨0, .data⟩ (by simp) rfl
      have h9 : a.tmps.getD 9 undef = .agg #[.string ⟨#[89]⟩, .int .i64 0, .int .i64 0, .string noText] := hdep ⟨1, .data⟩ (by simp) rfl
      refine mk_val (v := .slice (some ⟨w1.heap.size, 0, none⟩) 2 2) (w' := w1.alloc (.cells #[.string ⟨#[88]⟩, .int .i64 0, .int .i64 0, .string noText, .string ⟨#[89]⟩, .int .i64 0, .int .i64 0, .string noText] 26)) ?_ (hK _ _ ((Below.refl _ _).alloc (Nat.le_refl _) _) ⟨_, rfl, tm_row2 okX okY _⟩)
      simp only [execOp, Act.eval, List.map_toArray, List.map_cons, List.map_nil, h8, h9]
      kernel_rfl
    | 3, _ =>
      simp only [List.getElem?_toArray, List.getElem?_cons_zero, List.getElem?_cons_succ, Option.some.injEq] at ho
      subst ho
      obtain ⟨b, h10, hr⟩ : ∃ b, a.tmps.getD 10 undef = .slice (some ⟨b, 0, none⟩) 2 2 ∧ Rg 4 TmC w1 (some ⟨b, 0, none⟩) [tX, tY] := hdep ⟨2, .data⟩ (by simp) rfl
      refine mk_val (v := .agg #[.string ⟨#[112]⟩, .slice (some ⟨b, 0, none⟩) 2 2]) (w' := w1) ?_ (hK _ _ (Below.refl _ _) ⟨b, rfl, hr⟩)
      simp only [execOp, Act.eval, List.map_toArray, List.map_cons, List.map_nil, h10]
      kernel_rfl
    | 4, _ =>
      simp only [List.getElem?_toArray, List.getElem?_cons_zero, List.getElem?_cons_succ, Option.some.injEq] at ho
      subst ho
      have h1 : a.tmps.getD 2 undef = .pointer (some ⟨w.heap.size + 1, 0, none⟩) := (hfr 2 (by decide)).trans rfl
      refine mk_val (v := .agg #[.string ⟨#[89]⟩, .int .i64 0, .int .i64 0, .string noText]) (w' := w1) ?_ (hK _ _ (Below.refl _ _) rfl)
      simp only [execOp, Act.eval, h1, Instr.loadAt, Instr.sureAddr, Sem.run_bind, Sem.run_pure, Result.andThen_ok]
      rw [run_loadVar_at w1 (w.heap.size + 1) 0 26 [.string ⟨#[89]⟩, .int .i64 0, .int .i64 0, .string noText] _ ?_ Tryd.underlying26 rfl infoTm4]
      · rfl
      · intro j v hv
        refine (hlow.cell (p := ⟨w.heap.size + 1, 0 + j, none⟩) (by rw [hsz0]; simp; try omega)).trans ?_
        match j, hv with
        | 0, hv => cases hv; exact hO2.cell 0
        | 1, hv => cases hv; exact hO2.cell 1
        | 2, hv => cases hv; exact hO2.cell 2
        | 3, hv => cases hv; exact hO2.cell 3
        | n + 4, hv => simp at hv
    | 5, _ =>
      simp only [List.getElem?_toArray, List.getElem?_cons_zero, List.getElem?_cons_succ, Option.some.injEq] at ho
      subst ho
      have h1 : a.tmps.getD 3 undef = .pointer (some ⟨w.heap.size + 1 + 1, 0, none⟩) := (hfr 3 (by decide)).trans rfl
      refine mk_val (v := .agg #[.string ⟨#[90]⟩, .int .i64 0, .int .i64 0, .string noText]) (w' := w1) ?_ (hK _ _ (Below.refl _ _) rfl)
      simp only [execOp, Act.eval, h1, Instr.loadAt, Instr.sureAddr, Sem.run_bind, Sem.run_pure, Result.andThen_ok]
      rw [run_loadVar_at w1 (w.heap.size + 1 + 1) 0 26 [.string ⟨#[90]⟩, .int .i64 0, .int .i64 0, .string noText] _ ?_ Tryd.underlying26 rfl infoTm4]
      · rfl
      · intro j v hv
        refine (hlow.cell (p := ⟨w.heap.size + 1 + 1, 0 + j, none⟩) (by rw [hsz0]; simp; try omega)).trans ?_
        match j, hv with
        | 0, hv => cases hv; exact hO3.cell 0
        | 1, hv => cases hv; exact hO3.cell 1
        | 2, hv => cases hv; exact hO3.cell 2
        | 3, hv => cases hv; exact hO3.cell 3
        | n + 4, hv => simp at hv
    | 6, _ =>
      simp only [List.getElem?_toArray, List.getElem?_cons_zero, List.getElem?_cons_succ, Option.some.injEq] at ho
      subst ho
      have h8 : a.tmps.getD 12 undef = .agg #[.string ⟨#[89]⟩, .int .i64 0, .int .i64 0, .string noText] := hdep ⟨4, .data⟩ (by simp) rfl
      have h9 : a.tmps.getD 13 undef = .agg #[.string ⟨#[90]⟩, .int .i64 0, .int .i64 0, .string noText] := hdep ⟨5, .data⟩ (by simp) rfl
      refine mk_val (v := .slice (some ⟨w1.heap.size, 0, none⟩) 2 2) (w' := w1.alloc (.cells #[.string ⟨#[89]⟩, .int .i64 0, .int .i64 0, .string noText, .string ⟨#[90]⟩, .int .i64 0, .int .i64 0, .string noText] 26)) ?_ (hK _ _ ((Below.refl _ _).alloc (Nat.le_refl _) _) ⟨_, rfl, tm_row2 okY okZ _⟩)
      simp only [execOp, Act.eval, List.map_toArray, List.map_cons, List.map_nil, h8, h9]
      kernel_rfl
    | 7, _ =>
      simp only [List.getElem?_toArray, List.getElem?_cons_zero, List.getElem?_cons_succ, Option.some.injEq] at ho
      subst ho
      obtain ⟨b, h10, hr⟩ : ∃ b, a.tmps.getD 14 undef = .slice (some ⟨b, 0, none⟩) 2 2 ∧ Rg 4 TmC w1 (some ⟨b, 0, none⟩) [tY, tZ] := hdep ⟨6, .data⟩ (by simp) rfl
      refine mk_val (v := .agg #[.string ⟨#[113]⟩, .slice (some ⟨b, 0, none⟩) 2 2]) (w' := w1) ?_ (hK _ _ (Below.refl _ _) ⟨b, rfl, hr⟩)
      simp only [execOp, Act.eval, List.map_toArray, List.map_cons, List.map_nil, h10]
      kernel_rfl
    | 8, _ =>
      simp only [List.getElem?_toArray, List.getElem?_cons_zero, List.getElem?_cons_succ, Option.some.injEq] at ho
      subst ho
      obtain ⟨b, h10, hr⟩ : ∃ b, a.tmps.getD 15 undef = .agg #[.string ⟨#[113]⟩, .slice (some ⟨b, 0, none⟩) 2 2] ∧ Rg 4 TmC w1 (some ⟨b, 0, none⟩) [tY, tZ] := hdep ⟨7, .data⟩ (by simp) rfl
      refine mk_val (v := .agg #[.int .i64 1, .string ⟨#[113]⟩, .slice (some ⟨b, 0, none⟩) 2 2, .int .i64 0, .int .i64 0, .string noText, .int .i64 0, .int .i64 0, .string noText, .slice none 0 0, .int .i64 0, .string noText, .int .i64 0, .int .i64 0, .string noText, .slice none 0 0, .int .i64 0]) (w' := w1) ?_ (hK _ _ (Below.refl _ _) ⟨b, rfl, hr⟩)
      simp only [execOp, Act.eval, List.map_toArray, List.map_cons, List.map_nil, h10]
      kernel_rfl
    | 9, _ =>
      simp only [List.getElem?_toArray, List.getElem?_cons_zero, List.getElem?_cons_succ, Option.some.injEq] at ho
      subst ho
      refine mk_call (f := 18) (args := #[.string ⟨#[88]⟩]) ?_ ((v_any _ _).mono ?_)
      · simp only [execOp, Act.eval, List.map_toArray, List.map_cons, List.map_nil]
        kernel_rfl
      · rintro e w' ⟨rfl, rfl⟩
        exact ⟨_, rfl, hK _ _ ((Below.refl _ _).alloc (Nat.le_refl _) _) rfl⟩
    | 10, _ =>
      simp only [List.getElem?_toArray, List.getElem?_cons_zero, List.getElem?_cons_succ, Option.some.injEq] at ho
      subst ho
      refine mk_call (f := 18) (args := #[.string ⟨#[90]⟩]) ?_ ((v_any _ _).mono ?_)
      · simp only [execOp, Act.eval, List.map_toArray, List.map_cons, List.map_nil]
        kernel_rfl
      · rintro e w' ⟨rfl, rfl⟩
        exact ⟨_, rfl, hK _ _ ((Below.refl _ _).alloc (Nat.le_refl _) _) rfl⟩
    | 11, _ =>
      simp only [List.getElem?_toArray, List.getElem?_cons_zero, List.getElem?_cons_succ, Option.some.injEq] at ho
      subst ho
      have h8 : a.tmps.getD 17 undef = .agg #[.int .i64 0, .string ⟨#[88]⟩, .int .i64 0, .int .i64 0, .string noText, .slice none 0 0] := hdep ⟨9, .data⟩ (by simp) rfl
      have h9 : a.tmps.getD 18 undef = .agg #[.int .i64 0, .string ⟨#[90]⟩, .int .i64 0, .int .i64 0, .string noText, .slice none 0 0] := hdep ⟨10, .data⟩ (by simp) rfl
      refine mk_val (v := .agg #[.int .i64 3, .string noText, .slice none 0 0, .int .i64 1, .int .i64 0, .string ⟨#[88]⟩, .int .i64 0, .int .i64 0, .string noText, .slice none 0 0, .int .i64 0, .string ⟨#[90]⟩, .int .i64 0, .int .i64 0, .string noText, .slice none 0 0, .int .i64 0]) (w' := w1) ?_ (hK _ _ (Below.refl _ _) rfl)
      simp only [execOp, Act.eval, List.map_toArray, List.map_cons, List.map_nil, h8, h9]
      kernel_rfl
    | 12, _ =>
      simp only [List.getElem?_toArray, List.getElem?_cons_zero, List.getElem?_cons_succ, Option.some.injEq] at ho
      subst ho
      obtain ⟨b, h10, hr⟩ : ∃ b, a.tmps.getD 16 undef = .agg #[.int .i64 1, .string ⟨#[113]⟩, .slice (some ⟨b, 0, none⟩) 2 2, .int .i64 0, .int .i64 0, .string noText, .int .i64 0, .int .i64 0, .string noText, .slice none 0 0, .int .i64 0, .string noText, .int .i64 0, .int .i64 0, .string noText, .slice none 0 0, .int .i64 0] ∧ Rg 4 TmC w1 (some ⟨b, 0, none⟩) [tY, tZ] := hdep ⟨8, .data⟩ (by simp) rfl
      have h11 : a.tmps.getD 19 undef = .agg #[.int .i64 3, .string noText, .slice none 0 0, .int .i64 1, .int .i64 0, .string ⟨#[88]⟩, .int .i64 0, .int .i64 0, .string noText, .slice none 0 0, .int .i64 0, .string ⟨#[90]⟩, .int .i64 0, .int .i64 0, .string noText, .slice none 0 0, .int .i64 0] := hdep ⟨11, .data⟩ (by simp) rfl
      refine mk_val (v := .slice (some ⟨w1.heap.size, 0, none⟩) 2 2) (w' := w1.alloc (.cells #[.int .i64 1, .string ⟨#[113]⟩, .slice (some ⟨b, 0, none⟩) 2 2, .int .i64 0, .int .i64 0, .string noText, .int .i64 0, .int .i64 0, .string noText, .slice none 0 0, .int .i64 0, .string noText, .int .i64 0, .int .i64 0, .string noText, .slice none 0 0, .int .i64 0, .int .i64 3, .string noText, .slice none 0 0, .int .i64 1, .int .i64 0, .string ⟨#[88]⟩, .int .i64 0, .int .i64 0, .string noText, .slice none 0 0, .int .i64 0, .string ⟨#[90]⟩, .int .i64 0, .int .i64 0, .string noText, .slice none 0 0, .int .i64 0] 63)) ?_ (hK _ _ ((Below.refl _ _).alloc (Nat.le_refl _) _) ⟨_, rfl, lt_row2 hr⟩)
      simp only [execOp, Act.eval, List.map_toArray, List.map_cons, List.map_nil, h10, h11]
      kernel_rfl
    | 13, _ =>
      simp only [List.getElem?_toArray, List.getElem?_cons_zero, List.getElem?_cons_succ, Option.some.injEq] at ho
      subst ho
      obtain ⟨b, h10, hr⟩ : ∃ b, a.tmps.getD 11 undef = .agg #[.string ⟨#[112]⟩, .slice (some ⟨b, 0, none⟩) 2 2] ∧ Rg 4 TmC w1 (some ⟨b, 0, none⟩) [tX, tY] := hdep ⟨3, .data⟩ (by simp) rfl
      obtain ⟨g, h11, hr2⟩ : ∃ b, a.tmps.getD 20 undef = .slice (some ⟨b, 0, none⟩) 2 2 ∧ Rg 17 LtC w1 (some ⟨b, 0, none⟩) [lt1, lt2] := hdep ⟨12, .data⟩ (by simp) rfl
      refine mk_val (v := .agg #[.string ⟨#[112]⟩, .slice (some ⟨b, 0, none⟩) 2 2, .int .i64 0, .int .i64 0, .slice (some ⟨g, 0, none⟩) 2 2, .int .i64 0]) (w' := w1) ?_ (hK _ _ (Below.refl _ _) ⟨b, g, rfl, ⟨by decide, hr⟩, hr2⟩)
      simp only [execOp, Act.eval, List.map_toArray, List.map_cons, List.map_nil, h10, h11]
      kernel_rfl
    | 14, _ =>
      simp only [List.getElem?_toArray, List.getElem?_cons_zero, List.getElem?_cons_succ, Option.some.injEq] at ho
      subst ho
      refine mk_val (v := .pointer (some ⟨w1.heap.size, 0, none⟩)) (w' := w1.alloc (.cells #[.string noText, .slice none 0 0, .int .i64 0, .int .i64 0, .slice none 0 0, .int .i64 0] 56)) ?_ (hK _ _ ((Below.refl _ _).alloc (Nat.le_refl _) _) ⟨_, rfl, heap_alloc_new _ _, hlow0⟩)
      simp only [execOp, Act.eval, List.map_toArray, List.map_cons, List.map_nil, Nat.add_zero]
      kernel_rfl
    | n + 15, h => omega
  case hfin =>
    intro o ho a w1 hdf hsz hfr hlow hall
    simp only [List.getElem?_toArray, List.getElem?_cons_zero, List.getElem?_cons_succ, Option.some.injEq] at ho
    subst ho
    obtain ⟨b, g, h13, hV⟩ : ∃ b g, a.tmps.getD 21 undef = .agg #[.string ⟨#[112]⟩, .slice (some ⟨b, 0, none⟩) 2 2, .int .i64 0, .int .i64 0, .slice (some ⟨g, 0, none⟩) 2 2, .int .i64 0] ∧ RuV w1 ru0 (some ⟨b, 0, none⟩) (some ⟨g, 0, none⟩) := hall 13 (by decide)
    obtain ⟨b4, h14, hO4, hb4⟩ : ∃ b, a.tmps.getD 4 undef = .pointer (some ⟨b, 0, none⟩) ∧ Own w1 b 56 [.string noText, .slice none 0 0, .int .i64 0, .int .i64 0, .slice none 0 0, .int .i64 0] ∧ w.heap.size ≤ b := hall 14 (by decide)
    have hone : (#[.string ⟨#[112]⟩, .slice (some ⟨b, 0, none⟩) 2 2, .int .i64 0, .int .i64 0, .slice (some ⟨g, 0, none⟩) 2 2, .int .i64 0] : Array Value).all (·.oneCell') = true := by simp [Value.oneCell']
    refine wp_store_row 56 (.tmp 4) (.tmp 21) rfl b4 #[.string ⟨#[112]⟩, .slice (some ⟨b, 0, none⟩) 2 2, .int .i64 0, .int .i64 0, .slice (some ⟨g, 0, none⟩) 2 2, .int .i64 0] h14 h13 56 #[.string noText, .slice none 0 0, .int .i64 0, .int .i64 0, .slice none 0 0, .int .i64 0] hO4 infoRu rfl hone ?_
    have hsw : w.heap.size ≤ w1.heap.size := Nat.le_trans (by rw [HO.out.2.2.2]; omega) hlow.size
    have hlow1 : Below w.heap.size w w1 := ((((Below.refl w.heap.size w).alloc (Nat.le_refl _) _).alloc (by simp) _).alloc (by simp; omega) _).trans (hlow.mono (by rw [HO.out.2.2.2]; omega))
    have hX : ∀ k i v, k ≠ b4 → w1.cell? ⟨k, i, none⟩ = some v → (w1.setRow b4 #[.string ⟨#[112]⟩, .slice (some ⟨b, 0, none⟩) 2 2, .int .i64 0, .int .i64 0, .slice (some ⟨g, 0, none⟩) 2 2, .int .i64 0]).cell? ⟨k, i, none⟩ = some v := fun k i v hb h => (cell_setRow_other w1 b4 _ ⟨k, i, none⟩ hb).trans h
    have HV2 := Lib.hid (ru_off hO4 (Nat.le_of_eq (setRow_size _ _ _).symm) hX hV)
    have HO2 : Hid (Own (w1.setRow b4 #[.string ⟨#[112]⟩, .slice (some ⟨b, 0, none⟩) 2 2, .int .i64 0, .int .i64 0, .slice (some ⟨g, 0, none⟩) 2 2, .int .i64 0]) b4 56 [.string ⟨#[112]⟩, .slice (some ⟨b, 0, none⟩) 2 2, .int .i64 0, .int .i64 0, .slice (some ⟨g, 0, none⟩) 2 2, .int .i64 0]) := setRow_heap w1 b4 _ _ _ _ hO4
    have HB2 : Hid (Below w.heap.size w (w1.setRow b4 #[.string ⟨#[112]⟩, .slice (some ⟨b, 0, none⟩) 2 2, .int .i64 0, .int .i64 0, .slice (some ⟨g, 0, none⟩) 2 2, .int .i64 0])) := ⟨hlow1.os, hlow1.tape, hlow1.output, by simpa using hlow1.size, fun k hk => (setRow_other w1 b4 k _ (by omega)).trans (hlow1.block k hk)⟩
    generalize w1.setRow b4 #[.string ⟨#[112]⟩, .slice (some ⟨b, 0, none⟩) 2 2, .int .i64 0, .int .i64 0, .slice (some ⟨g, 0, none⟩) 2 2, .int .i64 0] = W2 at HV2 HO2 HB2 ⊢
    refine hK1 _ _ ?_
    clear hK1 hX hV hO4 hlow1 hlow hall hone hfr h13 HO
    obtain ⟨⟨l⟩, df⟩ := a
    simp only [Act.put] at hdf hsz h14 ⊢
    subst hdf
    change l.length = 37 at hsz
    obtain ⟨t0, l0, rfl, hz0⟩ := cons_of hsz
    obtain ⟨t1, l1, rfl, hz1⟩ := cons_of hz0
    obtain ⟨t2, l2, rfl, hz2⟩ := cons_of hz1
    obtain ⟨t3, l3, rfl, hz3⟩ := cons_of hz2
    obtain ⟨t4, l4, rfl, hz4⟩ := cons_of hz3
    obtain ⟨t5, l5, rfl, hz5⟩ := cons_of hz4
    obtain ⟨t6, l6, rfl, hz6⟩ := cons_of hz5
    obtain ⟨t7, l7, rfl, hz7⟩ := cons_of hz6
    obtain ⟨t8, l8, rfl, hz8⟩ := cons_of hz7
    obtain ⟨t9, l9, rfl, hz9⟩ := cons_of hz8
    obtain ⟨t10, l10, rfl, hz10⟩ := cons_of hz9
    obtain ⟨t11, l11, rfl, hz11⟩ := cons_of hz10
    obtain ⟨t12, l12, rfl, hz12⟩ := cons_of hz11
    obtain ⟨t13, l13, rfl, hz13⟩ := cons_of hz12
    obtain ⟨t14, l14, rfl, hz14⟩ := cons_of hz13
    obtain ⟨t15, l15, rfl, hz15⟩ := cons_of hz14
    obtain ⟨t16, l16, rfl, hz16⟩ := cons_of hz15
    obtain ⟨t17, l17, rfl, hz17⟩ := cons_of hz16
    obtain ⟨t18, l18, rfl, hz18⟩ := cons_of hz17
    obtain ⟨t19, l19, rfl, hz19⟩ := cons_of hz18
    obtain ⟨t20, l20, rfl, hz20⟩ := cons_of hz19
    obtain ⟨t21, l21, rfl, hz21⟩ := cons_of hz20
    obtain ⟨t22, l22, rfl, hz22⟩ := cons_of hz21
    obtain ⟨t23, l23, rfl, hz23⟩ := cons_of hz22
    obtain ⟨t24, l24, rfl, hz24⟩ := cons_of hz23
    obtain ⟨t25, l25, rfl, hz25⟩ := cons_of hz24
    obtain ⟨t26, l26, rfl, hz26⟩ := cons_of hz25
    obtain ⟨t27, l27, rfl, hz27⟩ := cons_of hz26
    obtain ⟨t28, l28, rfl, hz28⟩ := cons_of hz27
    obtain ⟨t29, l29, rfl, hz29⟩ := cons_of hz28
    obtain ⟨t30, l30, rfl, hz30⟩ := cons_of hz29
    obtain ⟨t31, l31, rfl, hz31⟩ := cons_of hz30
    obtain ⟨t32, l32, rfl, hz32⟩ := cons_of hz31
    obtain ⟨t33, l33, rfl, hz33⟩ := cons_of hz32
    obtain ⟨t34, l34, rfl, hz34⟩ := cons_of hz33
    obtain ⟨t35, l35, rfl, hz35⟩ := cons_of hz34
    obtain ⟨t36, l36, rfl, hz36⟩ := cons_of hz35
    obtain rfl : l36 = [] := List.eq_nil_of_length_eq_zero hz36
    have h14' : t4 = .pointer (some ⟨b4, 0, none⟩) := h14
    clear h14
    subst h14'
    clear hsz hz0 hz1 hz2 hz3 hz4 hz5 hz6 hz7 hz8 hz9 hz10 hz11 hz12 hz13 hz14 hz15 hz16 hz17 hz18 hz19 hz20 hz21 hz22 hz23 hz24 hz25 hz26 hz27 hz28 hz29 hz30 hz31 hz32 hz33 hz34 hz35 hz36
    have c0 := HO2.out.cell 0
    have c1 := HO2.out.cell 1
    have c2 := HO2.out.cell 2
    have c3 := HO2.out.cell 3
    have c4 := HO2.out.cell 4
    have c5 := HO2.out.cell 5
    simp only [List.getElem?_cons_zero, List.getElem?_cons_succ] at c0 c1 c2 c3 c4 c5
    have CV := Lib.hid (Vars_any ru0 (some ⟨b, 0, none⟩) 2 (some ⟨g, 0, none⟩) 2 W2 HV2.out (by decide))
    rw [ru0_names] at CV
    go_wp2_with fail
    refine CV.out.mono ?_
    rintro e w3 ⟨T, tc, rfl, ho3, hn3, hb3⟩
    have HB3 : Hid (Below w.heap.size w w3) := HB2.out.trans (hb3.mono HB2.out.size)
    have HV3 := Lib.hid (HV2.out.below hb3)
    have HO3 := Lib.hid (HO2.out.below hb3)
    have hbx : Below w3.heap.size w3 (w3.alloc (.cells #[.string ⟨#[88]⟩, .string ⟨#[89]⟩, .string ⟨#[90]⟩] 9)) := (Below.refl _ _).alloc (Nat.le_refl _) _
    have hox : Own (w3.alloc (.cells #[.string ⟨#[88]⟩, .string ⟨#[89]⟩, .string ⟨#[90]⟩] 9)) w3.heap.size 9 [.string ⟨#[88]⟩, .string ⟨#[89]⟩, .string ⟨#[90]⟩] := heap_alloc_new _ _
    have hr2 : TxRow (w3.alloc (.cells #[.string ⟨#[88]⟩, .string ⟨#[89]⟩, .string ⟨#[90]⟩] 9)) (some ⟨w3.heap.size, 0, none⟩) [⟨#[88]⟩, ⟨#[89]⟩, ⟨#[90]⟩] := fun _ => ⟨w3.heap.size, 0, rfl, by simp, fun i x hx => by
      match i, hx with
      | 0, hx => cases hx; exact hox.cell 0
      | 1, hx => cases hx; exact hox.cell 1
      | 2, hx => cases hx; exact hox.cell 2
      | n + 3, hx => simp at hx⟩
    have CT := Lib.hid (Texts_same T (some ⟨w3.heap.size, 0, none⟩) tc 3 [⟨#[88]⟩, ⟨#[89]⟩, ⟨#[90]⟩] _ (by simp) ((TxRow.own ho3).pers (.of hbx)) hr2)
    have HB4 : Hid (Below w.heap.size w (w3.alloc (.cells #[.string ⟨#[88]⟩, .string ⟨#[89]⟩, .string ⟨#[90]⟩] 9))) := HB3.out.trans (hbx.mono HB3.out.size)
    have HV4 := Lib.hid (HV3.out.below hbx)
    have HO4 := Lib.hid (HO3.out.below hbx)
    clear ho3 hn3 hb3 hox hr2 c0 c1 c2 c3 c4 c5 CV hbx
    go_wp2_with fail
    refine CT.out.mono ?_
    rintro e w5 ⟨rfl, hb5⟩
    have HB5 : Hid (Below w.heap.size w w5) := HB4.out.trans (hb5.mono HB4.out.size)
    have HO5 := Lib.hid (HO4.out.below hb5)
    have CR := Lib.hid (RightRule_is ru0 (some ⟨b, 0, none⟩) 2 (some ⟨g, 0, none⟩) 2 true w5 ru0_right (HV4.out.below hb5) (HL.out.below HB5.out))
    have c0 := HO5.out.cell 0
    have c1 := HO5.out.cell 1
    have c2 := HO5.out.cell 2
    have c3 := HO5.out.cell 3
    have c4 := HO5.out.cell 4
    have c5 := HO5.out.cell 5
    simp only [List.getElem?_cons_zero, List.getElem?_cons_succ] at c0 c1 c2 c3 c4 c5
    clear hb5 CT
    go_wp2_with fail
    refine CR.out.mono ?_
    rintro e w6 ⟨rfl, hb6⟩
    have HB6 : Hid (Below w.heap.size w w6) := HB5.out.trans (hb6.mono HB5.out.size)
    have CX := Lib.hid (Variable_is ⟨#[88]⟩ true w6 var_X (by decide) (HL.out.below HB6.out))
    clear hb6 CR c0 c1 c2 c3 c4 c5
    go_wp2_with fail
    refine CX.out.mono ?_
    rintro e w7 ⟨rfl, hb7⟩
    have HB7 : Hid (Below w.heap.size w w7) := HB6.out.trans (hb7.mono HB6.out.size)
    have CY := Lib.hid (Variable_is ⟨#[120]⟩ false w7 var_x (by decide) (HL.out.below HB7.out))
    clear hb7 CX
    go_wp2_with fail
    refine CY.out.mono ?_
    rintro e w8 ⟨rfl, hb8⟩
    have HB8 : Hid (Below w.heap.size w w8) := HB7.out.trans (hb8.mono HB7.out.size)
    clear hb8 CY
    go_wp2_with fail
    go_ret
    exact ⟨rfl, HB8.out⟩
end Go.Proofs.YtlfakhjcpdkaiaaDoor
