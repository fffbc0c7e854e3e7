/- The program's and the document's union, and what is left: the same lists. Of either, in one form. Conditions: at most 2000 tuples. -/
import Derived.Test.YtbahmkhnnahddaaRelRf
import Derived.Test.YtbahmkhnnahddaaRelRh
import Derived.Test.YtbahmkhnnahddaaRelZ
import Derived.Test.YtbahmkhnnahddaaRelIs
namespace Go.Proofs.Ytbahmkhnnahddaa
open Go.RowKit Go.Deep Go.Shelf

theorem addL_put {a : Int} {L : List (List V3)} {x : List V3} (hr : rightT x = true) (ha : (x.length : Int) = a) (hl : L.length < 2000) : addL a L x = putT L x := by
  unfold addL putT
  by_cases hf : fndT L x = true
  · simp [addB, hf]
  · have hf : fndT L x = false := by simpa using hf
    simp [addB, hf, hr, ha, hl]
/-- both sides' union. -/
theorem union_put {a : Int} : ∀ (xs : List (List V3)) {L : List (List V3)}, (∀ x ∈ xs, rightT x = true ∧ (x.length : Int) = a) → L.length + xs.length ≤ 2000 → allL a L xs = xs.foldl putT L
  | [], _, _, _ => rfl
  | x :: r, L, h, hl => by
    simp only [List.length_cons] at hl
    have hx := h x (List.mem_cons_self ..)
    have h1 := add_fits (L := L) x hx.1 hx.2 (by omega)
    simp only [allL, h1.1, if_true, List.foldl_cons]
    rw [union_put r (L := addL a L x) (fun y hy => h y (List.mem_cons_of_mem _ hy)) (by have := h1.2.2; omega), addL_put hx.1 hx.2 (by omega)]
theorem cmp0_comm (x y : List V3) : decide (cmpT x y = 0) = decide (cmpT y x = 0) := by
  by_cases h : cmpT x y = 0
  · have := cmpT_eq h
    subst this
    rfl
  · have h2 : ¬ cmpT y x = 0 := fun h2 => h (by have := cmpT_eq h2; subst this; exact h2)
    simp [h, h2]
/-- both sides' rest. -/
theorem minus_del : ∀ (xs L : List (List V3)), xs.foldl delT L = L.filter fun y => !fndT xs y
  | [], L => (List.filter_eq_self.2 (fun _ _ => by simp [fndT])).symm
  | x :: r, L => by
    simp only [List.foldl_cons]
    rw [minus_del r, delT, List.filter_filter]
    congr 1
    funext y
    simp only [fndT, List.any_cons]
    rw [cmp0_comm x y]
    cases decide (cmpT y x = 0) <;> simp
theorem both_del (Y X : List (List V3)) : (Y.foldl delT X).foldl delT X = X.filter (fndT Y) := by
  rw [minus_del, minus_del]
  apply List.filter_congr
  intro y hy
  cases h : fndT Y y with
  | true =>
    have : fndT (X.filter fun y => !fndT Y y) y = false := fnd_not.2 (fun hm => by
      have := (List.mem_filter.1 hm).2
      simp [h] at this)
    rw [this]; rfl
  | false =>
    have : fndT (X.filter fun y => !fndT Y y) y = true := fnd_iff.2 (List.mem_filter.2 ⟨hy, by simp [h]⟩)
    rw [this]; rfl

/-- Is, over a document's relation. -/
theorem IsR_any (b : Nat) (a : Int) (ts : List TV) (S T : List Nat) (m : Value) (L : List (List V3)) (w : World) (h : RelAt w b a ts S) (hg : Good a (lists ts)) (hm : RefR T w a m L) (he : lists ts = L) :
    Calls Try.prog 20 #[rp b, m] w fun e w' => e = .returned (.bool true) ∧ Below w.heap.size w w' := by
  obtain ⟨us, ⟨A, c, rfl, _, _, hl, _⟩, hus⟩ := hm
  exact Is_any b a ts S A c us w h hg (hl.off (fun _ h => by cases h)) (by rw [hus, he])

/-- rel.Of in one form. -/
def OfV (w : World) (a n : Int) (L : List (List V3)) (e : Ending) (w' : World) : Prop :=
  ∃ x, e = .returned (.tuple #[x, errV n]) ∧ (n = 0 → ∃ b ts S, x = rp b ∧ RelAt w' b a ts S ∧ lists ts = L) ∧ (n ≠ 0 → x = .pointer none) ∧ Below w.heap.size w w'
theorem OfV_any (a : Int) (A : Option Addr) (c : Nat) (xs : List TV) (w : World) (hl : Lst [] w A xs) (ht : ∀ x ∈ xs, Tok x) (hn : xs.length ≤ maxLen) :
    Calls Try.prog 22 #[.int .i64 a, .slice A xs.length c] w fun e w' => OfV w a (ofE a (lists xs)) (ofL a (lists xs)) e w' :=
  (Of_any a A c xs w hl ht hn).mono fun e w' h => by
    rcases h with ⟨h0, b, rfl, ts, S, hr, hl, _, hb⟩ | ⟨h0, rfl, hb⟩
    · exact ⟨rp b, by rw [h0, err0], fun _ => ⟨b, ts, S, rfl, hr, hl⟩, fun h => absurd h0 h, hb⟩
    · exact ⟨.pointer none, by rw [err_eno h0], fun h => absurd h h0, fun _ => rfl, hb⟩
/-- the document's Of in one form. -/
def ROfV (w : World) (a n : Int) (L : List (List V3)) (e : Ending) (w' : World) : Prop :=
  ∃ a2 A2 n2 c2, e = .returned (.tuple #[rv3 a2 A2 n2 c2, .int .i64 n]) ∧ (n = 0 → RefR [] w' a (rv3 a2 A2 n2 c2) L) ∧ Below w.heap.size w w'
theorem ROfV_any (a : Int) (A : Option Addr) (c : Nat) (xs : List TV) (w : World) (hl : Lst [] w A xs) (ht : ∀ x ∈ xs, Tok x) (hn : xs.length ≤ maxLen) :
    Calls Try.prog 23 #[.int .i64 a, .slice A xs.length c] w fun e w' => ROfV w a (ofE a (lists xs)) (ofL a (lists xs)) e w' :=
  (refOf_any [] a A c xs w (fun _ h => by cases h) hl ht hn).mono fun e w' h => by
    rcases h with ⟨h0, m, rfl, hr, hb⟩ | ⟨h0, rfl, hb⟩
    · obtain ⟨A2, c2, rfl⟩ := hr.form
      exact ⟨a, A2, _, c2, by rw [h0], fun _ => hr, hb⟩
    · exact ⟨0, none, 0, 0, rfl, fun h => absurd h h0, hb⟩

set_option maxRecDepth 100000 in
set_option maxHeartbeats 400000 in
theorem Union_nil2 (b : Nat) (w : World) :
    Calls Try.prog 24 #[rp b, .pointer none] w fun e w' => e = .returned (.tuple #[.pointer none, eno 13]) ∧ Below w.heap.size w w' := by
  have HA := Lib.hid (alike_nil2 b w)
  have k1 := neq_eno 13
  go_enter Try.func24, Try.ntmps24
  go_wp2_with fail
  refine HA.out.mono ?_
  rintro e w1 ⟨rfl, rfl⟩
  go_wp2
  refine bodyPost_ret (v := .tuple #[.pointer none, eno 13]) (by simp [results, Try.results24, go_sem]) rfl ⟨rfl, Below.refl _ _⟩
set_option maxRecDepth 100000 in
set_option maxHeartbeats 400000 in
theorem Minus_nil1 (b : Nat) (w : World) :
    Calls Try.prog 25 #[.pointer none, rp b] w fun e w' => e = .returned (.tuple #[.pointer none, eno 13]) ∧ Below w.heap.size w w' := by
  have HA := Lib.hid (alike_nil1 b (w.alloc (.cells #[rp b] 24)))
  have HB := Lib.hid ((Below.refl w.heap.size w).alloc (Nat.le_refl _) (.cells #[rp b] 24))
  have k1 := neq_eno 13
  go_enter Try.func25, Try.ntmps25
  go_wp2_with fail
  refine HA.out.mono ?_
  rintro e w1 ⟨rfl, rfl⟩
  go_wp2
  refine bodyPost_ret (v := .tuple #[.pointer none, eno 13]) (by simp [results, Try.results25, go_sem]) rfl ⟨rfl, HB.out⟩
end Go.Proofs.Ytbahmkhnnahddaa
