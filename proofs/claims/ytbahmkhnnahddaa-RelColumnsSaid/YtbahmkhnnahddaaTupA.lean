/- Tuples in memory: a slice of values as a list. Conditions: none. -/
import Derived.Test.YtbahmkhnnahddaaValOrd
import Derived.Deep.QuietTactic
import Derived.BigQuiet
import Derived.Deep.RegionHeld3
namespace Go.Proofs.Ytbahmkhnnahddaa
open Go.RowKit

/-- a value's three parts. -/
abbrev V3 := Int × Int × ByteArray
abbrev vt (x : V3) : Value := vv x.1 x.2.1 x.2.2
/-- the three cells of a value at a place. -/
def Cell3 (w : World) (b p : Nat) (x : V3) : Prop :=
  w.cell? ⟨b, p, none⟩ = some (.int .i64 x.1) ∧ w.cell? ⟨b, p + 1, none⟩ = some (.int .i64 x.2.1) ∧ w.cell? ⟨b, p + 2, none⟩ = some (.string x.2.2)
/-- the values of a row. -/
def Row (w : World) (A : Option Addr) (l : List V3) : Prop :=
  0 < l.length → ∃ b o, A = some ⟨b, o, none⟩ ∧ b < w.heap.size ∧ ∀ i x, l[i]? = some x → Cell3 w b (o + i * 3) x
def Fit (l : List V3) : Prop := ∀ x ∈ l, x.2.2.size ≤ maxLen

theorem Row.below {w w' : World} {A : Option Addr} {l : List V3} (h : Row w A l) (hb : Below w.heap.size w w') : Row w' A l := by
  intro h0
  obtain ⟨b, o, rfl, hlt, hc⟩ := h h0
  refine ⟨b, o, rfl, Nat.lt_of_lt_of_le hlt hb.size, fun i x hx => ?_⟩
  obtain ⟨h1, h2, h3⟩ := hc i x hx
  exact ⟨(hb.cell hlt).trans h1, (hb.cell hlt).trans h2, (hb.cell hlt).trans h3⟩
theorem Row.nil (w : World) (A : Option Addr) : Row w A [] := fun h => absurd h (by simp)

/-- the negation of a valid value. -/
def badV (x : V3) : Bool := !isRight x.1 x.2.1 x.2.2
set_option maxRecDepth 100000 in
set_option maxHeartbeats 400000 in
theorem wrong_any (x : V3) (hs : x.2.2.size ≤ maxLen) (w : World) :
    Calls Try.prog 64 #[vt x] w fun e w' => e = .returned (.bool (badV x)) ∧ Below w.heap.size w w' := by
  obtain ⟨k, n, s⟩ := x
  go_enter Try.func64, Try.ntmps64
  go_wp2_with fail
  refine (Right_any k n s _ hs).mono ?_
  rintro e w1 ⟨rfl, b1⟩
  go_wp2
  go_ret
  exact ⟨rfl, ((Below.refl _ _).alloc (Nat.le_refl _) _).trans (b1.mono (by simp))⟩

theorem Row.at_ {w : World} {A : Option Addr} {l : List V3} (h : Row w A l) {k : Nat} (hk : k < l.length) :
    ∃ b o, A = some ⟨b, o, none⟩ ∧ b < w.heap.size ∧ Cell3 w b (o + k * 3) l[k] := by
  obtain ⟨b, o, rfl, hb, hc⟩ := h (by omega)
  exact ⟨b, o, rfl, hb, hc k _ (List.getElem?_eq_getElem hk)⟩

/-- the place of the first that is wrong. -/
def idxFrom {α : Type} (p : α → Bool) : Nat → List α → Int
  | _, [] => -1
  | i, x :: r => if p x then i else idxFrom p (i + 1) r
theorem idx_step {α : Type} (p : α → Bool) {l : List α} {k : Nat} (hk : k < l.length) : idxFrom p k (l.drop k) = if p l[k] then (k : Int) else idxFrom p (k + 1) (l.drop (k + 1)) := by
  rw [List.drop_eq_getElem_cons hk]
  rfl
theorem idx_end {α : Type} (p : α → Bool) {l : List α} {k : Nat} (hk : ¬ k < l.length) : idxFrom p k (l.drop k) = -1 := by
  rw [List.drop_eq_nil_of_le (by omega)]
  rfl
theorem idx_any {α : Type} (p : α → Bool) (l : List α) : ∀ i, decide (0 ≤ idxFrom p i l) = l.any p := by
  induction l with
  | nil => intro i; rfl
  | cons x r ih =>
    intro i
    unfold idxFrom
    by_cases hx : p x = true
    · simp [hx]
    · simp [hx, ih]
theorem ret_int {a b : Int} (h : a = b) : Ending.returned (.int .i64 a) = Ending.returned (.int .i64 b) := by rw [h]

set_option maxRecDepth 100000 in
set_option maxHeartbeats 400000 in
theorem IndexR_any (A : Option Addr) (c : Nat) (l : List V3) (hl : l.length ≤ maxLen) (hf : Fit l) (w : World) (hr : Row w A l) :
    Calls Try.prog 80 #[.slice A l.length c, .func (.func 64) #[] #[]] w fun e w' => e = .returned (.int .i64 (idxFrom badV 0 l)) ∧ Below w.heap.size w w' := by
  unfold maxLen at hl
  have HR := Lib.hid hr
  have HF := Lib.hid hf
  clear hr hf
  go_enter Try.func80, Try.ntmps80
  go_wp2
  go_loopw [8] (fun i wr => ∃ k : Nat, k ≤ l.length ∧ i = .int .i64 k ∧ Hid (idxFrom badV 0 l = idxFrom badV k (l.drop k)) ∧ Hid (Below w.heap.size w wr)) (fun i _ => l.length - (intOf i).toNat)
  case atStart => exact ⟨0, Nat.zero_le _, rfl, rfl, Below.refl _ _⟩
  case round =>
    obtain ⟨k, hk, rfl, HI, HB⟩ := hrel
    by_cases hlt : k < l.length
    · obtain ⟨b, o, rfl, hbw, hc⟩ := HR.out.at_ hlt
      have hx := HF.out l[k] (List.getElem_mem hlt)
      have HS := Lib.hid (HI.out.trans (idx_step badV hlt))
      clear HI
      generalize l[k] = x at hc hx HS
      obtain ⟨xk, xn, xs⟩ := x
      obtain ⟨c0, c1, c2⟩ := hc
      have c0 := (HB.out.cell hbw).trans c0
      have c1 := (HB.out.cell hbw).trans c1
      have c2 := (HB.out.cell hbw).trans c2
      simp only at c0 c1 c2 hx
      go_wp2_with fail
      refine (wrong_any (xk, xn, xs) hx _).mono ?_
      rintro e w1 ⟨rfl, b1⟩
      have B1 := HB.out.trans (b1.mono HB.out.size)
      by_cases hb : badV (xk, xn, xs) = true
      · rw [hb]
        have HQ := Lib.hid (HS.out.trans (if_pos hb))
        clear hb HS
        go_wp2
        go_ret
        exact ⟨ret_int HQ.out.symm, B1⟩
      · have HQ := Lib.hid (HS.out.trans (if_neg hb))
        have hb : badV (xk, xn, xs) = false := by simpa using hb
        rw [hb]
        clear hb HS
        go_wp2
        go_roundw
        case rel => exact ⟨k + 1, by omega, by go_num, HQ.out, B1⟩
        case measure => simp [intOf]; omega
    · have HQ := Lib.hid (HI.out.trans (idx_end badV hlt))
      go_wp2
      go_ret
      exact ⟨ret_int HQ.out.symm, HB.out⟩

set_option maxRecDepth 100000 in
set_option maxHeartbeats 400000 in
theorem ContainsR_any (A : Option Addr) (c : Nat) (l : List V3) (hl : l.length ≤ maxLen) (hf : Fit l) (w : World) (hr : Row w A l) :
    Calls Try.prog 66 #[.slice A l.length c, .func (.func 64) #[] #[]] w fun e w' => e = .returned (.bool (l.any badV)) ∧ Below w.heap.size w w' := by
  go_enter Try.func66, Try.ntmps66
  go_wp2_with fail
  refine (IndexR_any A c l hl hf _ hr).mono ?_
  rintro e w1 ⟨rfl, b1⟩
  go_wp2
  go_ret
  exact ⟨ret_bool (idx_any badV l 0), b1⟩

/-- a valid tuple. -/
def rightT (l : List V3) : Bool := decide (l.length ≤ 6) && !l.any badV
set_option maxRecDepth 100000 in
set_option maxHeartbeats 400000 in
theorem TRight_any (A : Option Addr) (c : Nat) (l : List V3) (hl : l.length ≤ maxLen) (hf : Fit l) (w : World) (hr : Row w A l) :
    Calls Try.prog 42 #[.slice A l.length c] w fun e w' => e = .returned (.bool (rightT l)) ∧ Below w.heap.size w w' := by
  by_cases h6 : (l.length : Int) ≤ 6
  · have HX := Lib.hid (show rightT l = !l.any badV by simp [rightT]; omega)
    go_enter Try.func42, Try.ntmps42
    go_wp2_with fail
    refine (ContainsR_any A c l hl hf _ hr).mono ?_
    rintro e w1 ⟨rfl, b1⟩
    go_wp2
    go_ret
    exact ⟨ret_bool HX.out.symm, b1⟩
  · have HX := Lib.hid (show rightT l = false by simp [rightT]; omega)
    go_enter Try.func42, Try.ntmps42
    go_wp2
    go_ret
    exact ⟨ret_bool HX.out.symm, Below.refl _ _⟩
end Go.Proofs.Ytbahmkhnnahddaa
