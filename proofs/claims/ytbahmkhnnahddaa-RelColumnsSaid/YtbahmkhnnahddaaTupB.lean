/- The document's own answer on tuples, and tuples side by side. Conditions: none. -/
import Derived.Test.YtbahmkhnnahddaaTupA
import Derived.Deep.OwnRows
import Derived.Deep.AppendLies
import Derived.OwnWalk
namespace Go.Proofs.Ytbahmkhnnahddaa
open Go.RowKit Go.Deep

theorem badV_not {x : V3} {b : Bool} (h : isRight x.1 x.2.1 x.2.2 = b) : badV x = !b := by simp [badV, h]
theorem any_snoc {l : List V3} {k : Nat} (hk : k < l.length) (h : (l.take k).any badV = false) (hx : badV l[k] = false) : (l.take (k + 1)).any badV = false := by
  rw [List.take_succ_eq_append_getElem hk, List.any_append, h]
  simpa using hx
theorem right_false_at {l : List V3} {k : Nat} (hk : k < l.length) (hx : badV l[k] = true) : rightT l = false := by
  have : l.any badV = true := List.any_eq_true.2 ⟨_, List.getElem_mem hk, hx⟩
  simp [rightT, this]

set_option maxRecDepth 100000 in
set_option maxHeartbeats 400000 in
theorem refTRight_any (A : Option Addr) (c : Nat) (l : List V3) (hl : l.length ≤ maxLen) (hf : Fit l) (w : World) (hr : Row w A l) :
    Calls Try.prog 45 #[.slice A l.length c] w fun e w' => e = .returned (.bool (rightT l)) ∧ Below w.heap.size w w' := by
  unfold maxLen at hl
  have HR := Lib.hid hr
  have HF := Lib.hid hf
  clear hr hf
  go_enter Try.func45, Try.ntmps45
  go_wp2
  go_loopw [3] (fun i wr => ∃ k : Nat, k ≤ l.length ∧ k ≤ 6 ∧ i = .int .i64 k ∧ Hid ((l.take k).any badV = false) ∧ Hid (Below w.heap.size w wr)) (fun i _ => l.length - (intOf i).toNat)
  case atStart => exact ⟨0, Nat.zero_le _, by omega, rfl, rfl, Below.refl _ _⟩
  case round =>
    obtain ⟨k, hk, hk6, rfl, HI, HB⟩ := hrel
    by_cases hlt : k < l.length
    · by_cases h5 : (5 : Int) < (k : Int)
      · have HQ := Lib.hid (show rightT l = false by simp [rightT]; omega)
        go_wp2
        go_ret
        exact ⟨ret_bool HQ.out.symm, HB.out⟩
      · obtain ⟨b, o, rfl, hbw, hc⟩ := HR.out.at_ hlt
        have hx := HF.out l[k] (List.getElem_mem hlt)
        have HS := Lib.hid (show badV l[k] = false → (l.take (k + 1)).any badV = false from any_snoc hlt HI.out)
        have HS2 := Lib.hid (show badV l[k] = true → rightT l = false from right_false_at hlt)
        clear HI
        generalize l[k] = x at hc hx HS HS2
        obtain ⟨xk, xn, xs⟩ := x
        obtain ⟨c0, c1, c2⟩ := hc
        have c0 := (HB.out.cell hbw).trans c0
        have c1 := (HB.out.cell hbw).trans c1
        have c2 := (HB.out.cell hbw).trans c2
        simp only at c0 c1 c2 hx
        go_wp2_with fail
        refine (refRight_any xk xn xs _ hx).mono ?_
        rintro e w1 ⟨rfl, b1⟩
        have B1 := Lib.hid (HB.out.trans (b1.mono HB.out.size))
        clear c0 c1 c2 b1
        by_cases hb : isRight xk xn xs = true
        · rw [hb]
          have HQ := Lib.hid (HS.out (badV_not (x := (xk, xn, xs)) hb))
          clear hb HS HS2
          go_wp2
          go_roundw
          case rel => exact ⟨k + 1, by omega, by omega, by go_num, HQ.out, B1.out⟩
          case measure => simp [intOf]; omega
        · have hb : isRight xk xn xs = false := by simpa using hb
          rw [hb]
          have HQ := Lib.hid (HS2.out (badV_not (x := (xk, xn, xs)) hb))
          clear hb HS HS2
          go_wp2
          go_ret
          exact ⟨ret_bool HQ.out.symm, B1.out⟩
    · have HQ := Lib.hid (show rightT l = true by
        have h := HI.out
        rw [List.take_of_length_le (by omega)] at h
        simp [rightT, h]
        omega)
      go_wp2
      go_ret
      exact ⟨ret_bool HQ.out.symm, HB.out⟩

set_option maxRecDepth 100000 in
set_option maxHeartbeats 400000 in
/-- one list twice. -/
theorem Same_any (A A' : Option Addr) (c c' : Nat) (l : List V3) (hl : l.length ≤ maxLen) (w : World) (hr : Row w A l) (hr' : Row w A' l) :
    Calls Try.prog 35 #[.slice A l.length c, .slice A' l.length c'] w fun e w' => e = .returned (.bool true) ∧ Below w.heap.size w w' := by
  unfold maxLen at hl
  have HR := Lib.hid hr
  have HR' := Lib.hid hr'
  clear hr hr'
  go_enter Try.func35, Try.ntmps35
  go_wp2
  go_loopw [13] (fun i wr => ∃ k : Nat, k ≤ l.length ∧ i = .int .i64 k ∧ Hid (Below w.heap.size w wr)) (fun i _ => l.length - (intOf i).toNat)
  case atStart => exact ⟨0, Nat.zero_le _, rfl, Below.refl _ _⟩
  case round =>
    obtain ⟨k, hk, rfl, HB⟩ := hrel
    by_cases hlt : k < l.length
    · obtain ⟨b, o, rfl, hbw, hc⟩ := HR.out.at_ hlt
      obtain ⟨b', o', rfl, hbw', hc'⟩ := HR'.out.at_ hlt
      generalize l[k] = x at hc hc'
      obtain ⟨xk, xn, xs⟩ := x
      obtain ⟨c0, c1, c2⟩ := hc
      obtain ⟨d0, d1, d2⟩ := hc'
      have c0 := (HB.out.cell hbw).trans c0
      have c1 := (HB.out.cell hbw).trans c1
      have c2 := (HB.out.cell hbw).trans c2
      have d0 := (HB.out.cell hbw').trans d0
      have d1 := (HB.out.cell hbw').trans d1
      have d2 := (HB.out.cell hbw').trans d2
      simp only at c0 c1 c2 d0 d1 d2
      go_wp2_with fail
      go_quiet (fail)
      go_wp2
      go_roundw
      case rel => exact ⟨k + 1, by omega, by go_num, below_drewN HB.out nq⟩
      case measure => simp [intOf]; omega
    · go_wp2
      go_ret
      exact ⟨rfl, HB.out⟩

/-- the cells of a row of values. -/
def flat : List V3 → List Value
  | [] => []
  | x :: r => .int .i64 x.1 :: .int .i64 x.2.1 :: .string x.2.2 :: flat r
theorem flat_len (l : List V3) : (flat l).length = l.length * 3 := by
  induction l with
  | nil => rfl
  | cons x r ih => simp only [flat, List.length_cons, ih]; omega
theorem flat_at : ∀ (l : List V3) (i : Nat) (x : V3), l[i]? = some x →
    (flat l)[i * 3]? = some (.int .i64 x.1) ∧ (flat l)[i * 3 + 1]? = some (.int .i64 x.2.1) ∧ (flat l)[i * 3 + 2]? = some (.string x.2.2)
  | [], i, x, h => by simp at h
  | y :: r, 0, x, h => by
    simp only [List.getElem?_cons_zero, Option.some.injEq] at h
    subst h
    exact ⟨rfl, rfl, rfl⟩
  | y :: r, i + 1, x, h => by
    have := flat_at r i x (by simpa using h)
    have e : (i + 1) * 3 = i * 3 + 3 := by omega
    rw [e]
    simpa [flat] using this
theorem flat_append (l m : List V3) : flat (l ++ m) = flat l ++ flat m := by
  induction l with
  | nil => rfl
  | cons x r ih => simp [flat, ih]
theorem flat_one (l : List V3) : ∀ u ∈ flat l, u.oneCell' = true := by
  induction l with
  | nil => simp [flat]
  | cons x r ih =>
    intro u hu
    simp only [flat, List.mem_cons] at hu
    rcases hu with rfl | rfl | rfl | hu
    · rfl
    · rfl
    · rfl
    · exact ih u hu
/-- what a row's cells are, by its places. -/
theorem flat_cells {w : World} {b o : Nat} {l : List V3} (h : ∀ i x, l[i]? = some x → Cell3 w b (o + i * 3) x) : ∀ j u, (flat l)[j]? = some u → w.cell? (Addr.add ⟨b, o, none⟩ j) = some u := by
  intro j u hu
  have hj : j < l.length * 3 := by
    rw [← flat_len]
    exact (List.getElem?_eq_some_iff.1 hu).1
  have hi : j / 3 < l.length := by omega
  obtain ⟨h1, h2, h3⟩ := h (j / 3) _ (List.getElem?_eq_getElem hi)
  obtain ⟨g1, g2, g3⟩ := flat_at l (j / 3) _ (List.getElem?_eq_getElem hi)
  have ha : Addr.add ⟨b, o, none⟩ j = ⟨b, o + j, none⟩ := by
    unfold Addr.add
    split
    · subst j; rfl
    · rfl
  rw [ha]
  have hm : j % 3 = 0 ∨ j % 3 = 1 ∨ j % 3 = 2 := by omega
  rcases hm with hm | hm | hm
  · have e : j = j / 3 * 3 := by omega
    rw [← e] at h1 g1
    rw [h1]; rw [g1] at hu; exact hu
  · have e : j = j / 3 * 3 + 1 := by omega
    rw [Nat.add_assoc, ← e] at h2; rw [← e] at g2
    rw [h2]; rw [g2] at hu; exact hu
  · have e : j = j / 3 * 3 + 2 := by omega
    rw [Nat.add_assoc, ← e] at h3; rw [← e] at g3
    rw [h3]; rw [g3] at hu; exact hu
/-- the other way. -/
theorem cells_flat {w : World} {b o : Nat} {l : List V3} (h : ∀ j u, (flat l)[j]? = some u → w.cell? (Addr.add ⟨b, o, none⟩ j) = some u) : ∀ i x, l[i]? = some x → Cell3 w b (o + i * 3) x := by
  intro i x hx
  obtain ⟨g1, g2, g3⟩ := flat_at l i x hx
  have ha : ∀ j, Addr.add ⟨b, o, none⟩ j = ⟨b, o + j, none⟩ := by
    intro j
    unfold Addr.add
    split
    · subst j; rfl
    · rfl
  have h1 := h _ _ g1
  have h2 := h _ _ g2
  have h3 := h _ _ g3
  rw [ha] at h1 h2 h3
  exact ⟨h1, h2, h3⟩
/-- a slice of the call's own. -/
theorem Row.own {w : World} {base n : Nat} {e : TypeId} {A : Option Addr} {c : Nat} {l : List V3} (h : w.ownsRow base e 3 (.slice A n c) n (flat l)) : n = l.length ∧ n ≤ c ∧ Row w A l := by
  have hn : n = l.length := by have := h.1; rw [flat_len] at this; omega
  subst hn
  refine ⟨rfl, ?_, fun h0 => ?_⟩
  · rcases h.2 with ⟨e1, e2⟩ | ⟨g, cap, cur, e1, _, _, e2, _⟩
    · injection e1 with _ _ e3; omega
    · injection e1 with _ _ e3; omega
  · obtain ⟨g, cap, hv, _, hlt⟩ := h.form h0
    have hA : A = some ⟨g, 0, none⟩ := by injection hv
    subst hA
    exact ⟨g, 0, rfl, hlt, cells_flat (h.cells (g := g) rfl)⟩
end Go.Proofs.Ytbahmkhnnahddaa
