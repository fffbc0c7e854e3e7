/- Errors as numbers; append onto a tuple of the call's own; Pick by both, in one form. Conditions: at most 50 columns. -/
import Derived.Test.YteamogdbhoajkaaDoorTupS
namespace Go.Proofs.YteamogdbhoajkaaDoor
open Go.RowKit Go.Deep

set_option maxRecDepth 100000 in
set_option maxHeartbeats 400000 in
theorem Num_any (n : Int) (w : World) : Calls Tryd.prog 23 #[errV n] w fun e w' => e = .returned (.int .i64 n) ∧ w = w' := by
  by_cases h0 : n = 0
  · subst h0
    rw [err0]
    have k1 : ∀ w, (binOp .eql 39 .nilIface .nilIface).run Tryd.prog w = .ok (.bool true) w := fun w => by kernel_rfl
    go_enter Tryd.func23, Tryd.ntmps23
    go_wp2
    go_ret
    exact ⟨rfl, rfl⟩
  · have e : errV n = eno n := by simp [errV, h0]
    rw [e]
    have hb : (n != 0) = true := by simpa using h0
    have k1 : ∀ w, (binOp .eql 39 (eno n) .nilIface).run Tryd.prog w = .ok (.bool false) w := fun w => by kernel_rfl
    have k2 := fun w => assert_eno n w
    clear h0 e
    go_enter Tryd.func23, Tryd.ntmps23
    go_wp2
    go_ret
    exact ⟨rfl, rfl⟩

theorem own_value {w : World} {base n : Nat} {e : TypeId} {v : Value} {xs : List Value} (h : w.ownsRow base e 3 v n xs) : ∃ A c, v = .slice A n c ∧ (A = none → c = 0) ∧ ∀ g, v.ownBlock = some g → base ≤ g := by
  rcases h.2 with ⟨h1, h2⟩ | ⟨g, cap, cur, h1, hg, _⟩
  · exact ⟨none, 0, by rw [h1, h2], (fun _ => rfl), fun g hg => by rw [h1] at hg; cases hg⟩
  · refine ⟨_, cap, h1, (fun h => by cases h), fun g' hg' => ?_⟩
    rw [h1] at hg'
    simp [Value.ownBlock] at hg'
    omega

set_option maxRecDepth 100000 in
/-- 'append(own, t...)'. -/
theorem appendT (w : World) {ops : Array Oper} {rest : List Oper} {o : Oper} {a : Act} {Q : Exit → Act → World → Prop}
    (hg : o.guard = none) (s x : Operand) (hop : o.op = Op.call { callee := Callee.builtin Builtin.append, args := #[s, x], argTypes := #[23, 23] })
    (base : Nat) (L : List V3) (v : Value) (hs : a.eval s = v) (hown : w.ownsRow base 30 3 v L.length (flat L)) (A : Option Addr) (c : Nat) (l : List V3) (hx : a.eval x = .slice A l.length c)
    (hn : A = none → c = 0) (hr : Row w A l) (hsz : L.length + l.length ≤ 1000) (hbase : base ≤ w.heap.size)
    (hK : ∀ A' c' w', w'.ownsRow base 30 3 (.slice A' (L.length + l.length) c') (L.length + l.length) (flat (L ++ l)) → (A' = none → c' = 0) → Below base w w' → wpList Tryd.prog ops Q rest (a.put o.dst (.slice A' (L.length + l.length) c')) w') :
    wpList Tryd.prog ops Q (o :: rest) a w := by
  obtain ⟨i, hi, hz, hs1, hb⟩ := info_parts infoVal
  obtain ⟨A0, c0, hv, hn0, hbl⟩ := own_value hown
  cases A with
  | none =>
    have hl0 : l = [] := by
      cases l with
      | nil => rfl
      | cons x r => obtain ⟨b, o, h, _⟩ := hr (by simp); cases h
    subst hl0
    have hc := hn rfl
    subst hc
    refine wpList_append_own_none hg s x 23 hop base 30 i 3 Tryd.underlying23 hi v L.length (flat L) hs hown hx ?_
    rw [hv]
    rw [hv] at hown
    have := hK A0 c0 w (by simpa using hown) hn0 (Below.refl _ _)
    exact this
  | some ad =>
    have hcells : ∀ j u, (flat l)[j]? = some u → w.cell? (ad.add j) = some u := by
      intro j u hu
      have h0 : 0 < l.length := by
        rcases Nat.eq_zero_or_pos l.length with h | h
        · have : l = [] := List.eq_nil_of_length_eq_zero h
          subst this
          simp [flat] at hu
        · exact h
      obtain ⟨b, o, h, _, hc⟩ := hr h0
      injection h with h
      subst h
      exact flat_cells hc j u hu
    refine wpList_append_own w hg s x 23 hop base 30 i _ 3 32 Tryd.underlying23 hi hz hs1 hb rfl (by decide) v L.length (flat L) hs hown ad l.length c (flat l) hx (flat_len l) hcells (flat_one l) (by unfold maxLen; omega) (by omega) hbase ?_
    intro v' w' ho hgr _
    rw [← flat_append] at ho
    obtain ⟨A', c', rfl, hn', _⟩ := own_value ho
    exact hK A' c' w' ho hn' ((Below.refl _ _).grown hgr hbase hbl)
/-- 'api.Tuple{}'. -/
theorem own_lit (w : World) : (w.alloc (.cells #[] 30)).ownsRow w.heap.size 30 3 (.slice (some ⟨w.heap.size, 0, none⟩) 0 0) ([] : List V3).length (flat []) :=
  ⟨rfl, .inr ⟨w.heap.size, 0, #[], rfl, Nat.le_refl _, heap_alloc_new w _, Nat.le_refl _, Nat.zero_le _, rfl, rfl⟩⟩

/-- what Pick hands back: the tuple, the error's number. -/
def pickR (l : List V3) (cs : List Int) : List V3 × Int := if cs.any (badC l.length) = true then ([], 1) else if 6 < cs.length then ([], 6) else (pickT l cs, 0)
def PickPost (w : World) (l : List V3) (cs : List Int) (e : Ending) (w' : World) : Prop :=
  ∃ A c, e = .returned (.tuple #[.slice A (pickR l cs).1.length c, errV (pickR l cs).2]) ∧ Row w' A (pickR l cs).1 ∧ Below w.heap.size w w'
def RefPost (w : World) (l : List V3) (cs : List Int) (e : Ending) (w' : World) : Prop :=
  ∃ A c, e = .returned (.tuple #[.slice A (pickR l cs).1.length c, .int .i64 (pickR l cs).2]) ∧ Row w' A (pickR l cs).1 ∧ Below w.heap.size w w'
theorem Pick_any (A : Option Addr) (c : Nat) (l : List V3) (C : Option Addr) (cc : Nat) (cs : List Int) (h50 : cs.length ≤ 50) (hll : l.length ≤ maxLen) (w : World) (hrl : Row w A l) (hr : Cols w C cs) :
    Calls Tryd.prog 19 #[.slice A l.length c, .slice C cs.length cc] w fun e w' => PickPost w l cs e w' := by
  have hcl : cs.length ≤ maxLen := by unfold maxLen; omega
  cases hb : cs.any (badC l.length) with
  | true =>
    refine (Pick_range A c l C cc cs hcl hb w hr).mono ?_
    rintro e w' ⟨rfl, hbw⟩
    have e1 : pickR l cs = ([], 1) := by simp [pickR, hb]
    exact ⟨none, 0, by rw [e1, err1]; rfl, by rw [e1]; exact Row.nil _ _, hbw⟩
  | false =>
    by_cases h6 : 6 < cs.length
    · refine (Pick_arity A c l C cc cs hcl hb (by omega) w hr).mono ?_
      rintro e w' ⟨rfl, hbw⟩
      have e1 : pickR l cs = ([], 6) := by simp [pickR, hb, h6]
      exact ⟨none, 0, by rw [e1, err6]; rfl, by rw [e1]; exact Row.nil _ _, hbw⟩
    · refine (Pick_ok A c l C cc cs hb (by omega) hll w hrl hr).mono ?_
      rintro e w' ⟨g, rfl, hro, hbw⟩
      have e1 : pickR l cs = (pickT l cs, 0) := by simp [pickR, hb, h6]
      exact ⟨some ⟨g, 0, none⟩, (pickT l cs).length, by rw [e1, err0], by rw [e1]; exact hro, hbw⟩
theorem refPick_post (A : Option Addr) (c : Nat) (l : List V3) (C : Option Addr) (cc : Nat) (cs : List Int) (h50 : cs.length ≤ 50) (hll : l.length ≤ maxLen) (w : World) (hrl : Row w A l) (hr : Cols w C cs) :
    Calls Tryd.prog 20 #[.slice A l.length c, .slice C cs.length cc] w fun e w' => RefPost w l cs e w' := by
  refine (refPick_any A c l C cc cs h50 hll w hrl hr).mono ?_
  rintro e w' ⟨k1, k2, k3, hbw⟩
  cases hb : cs.any (badC l.length) with
  | true =>
    have e1 : pickR l cs = ([], 1) := by simp [pickR, hb]
    exact ⟨none, 0, by rw [e1]; exact k1 hb, by rw [e1]; exact Row.nil _ _, hbw⟩
  | false =>
    by_cases h6 : 6 < cs.length
    · have e1 : pickR l cs = ([], 6) := by simp [pickR, hb, h6]
      exact ⟨none, 0, by rw [e1]; exact k2 hb h6, by rw [e1]; exact Row.nil _ _, hbw⟩
    · have e1 : pickR l cs = (pickT l cs, 0) := by simp [pickR, hb, h6]
      obtain ⟨A', c', he, hro⟩ := k3 hb h6
      exact ⟨A', c', by rw [e1]; exact he, by rw [e1]; exact hro, hbw⟩
theorem pickR_len (l : List V3) (cs : List Int) (h : cs.length ≤ 50) : (pickR l cs).1.length ≤ 50 := by
  unfold pickR
  split
  · simp
  · split
    · simp
    · simp only [pick_len]; exact h
end Go.Proofs.YteamogdbhoajkaaDoor
