/- corollaryref01's figures: Digits gives a number's decimal text, Text a value's text, Hash its hash. Conditions: numbers that a value may have. -/
import Derived.Test.YteamogdbhoajkaaDoorValMix
namespace Go.Proofs.YteamogdbhoajkaaDoor
open Go.RowKit

def decB (u : Nat) : ByteArray := ⟨(Lib.decDigits u).toArray⟩
def negB (u : Nat) : ByteArray := ⟨(45 :: Lib.decDigits u).toArray⟩
theorem bytes_append (a b : List UInt8) : (⟨a.toArray⟩ : ByteArray) ++ ⟨b.toArray⟩ = ⟨(a ++ b).toArray⟩ := by
  apply ByteArray.ext
  simp
theorem dec_step {u : Nat} (h : 10 ≤ u) : Lib.decDigits u = Lib.decDigits (u / 10) ++ Lib.decDigits (u % 10) := by
  rw [Lib.decDigits, dif_neg (by omega), Lib.decDigits_one (i := u % 10) (by omega)]
theorem decB_step {n : Int} (h : 10 ≤ n) : decB (n / 10).toNat ++ decB (n % 10).toNat = decB n.toNat := by
  unfold decB
  rw [bytes_append]
  have e := dec_step (u := n.toNat) (by omega)
  rw [e]
  have e1 : (n / 10).toNat = n.toNat / 10 := by omega
  have e2 : (n % 10).toNat = n.toNat % 10 := by omega
  rw [e1, e2]
theorem negB_step {n : Int} (h : 10 ≤ n) : negB (n / 10).toNat ++ decB (n % 10).toNat = negB n.toNat := by
  unfold decB negB
  rw [bytes_append]
  have e := dec_step (u := n.toNat) (by omega)
  rw [e]
  have e1 : (n / 10).toNat = n.toNat / 10 := by omega
  have e2 : (n % 10).toNat = n.toNat % 10 := by omega
  rw [e1, e2]
  rfl
theorem negB_one (n : Int) : (⟨#[45]⟩ : ByteArray) ++ decB n.toNat = negB n.toNat := by
  unfold decB negB
  rw [show (⟨#[45]⟩ : ByteArray) = ⟨[(45 : UInt8)].toArray⟩ from rfl, bytes_append]
  rfl
theorem enc_digit {n : Int} (h0 : 0 ≤ n) (h1 : n < 10) : Utf8.encode (48 + n) = decB n.toNat := by
  have h : n = 0 ∨ n = 1 ∨ n = 2 ∨ n = 3 ∨ n = 4 ∨ n = 5 ∨ n = 6 ∨ n = 7 ∨ n = 8 ∨ n = 9 := by omega
  unfold decB
  rw [Lib.decDigits_one (by omega)]
  rcases h with rfl | rfl | rfl | rfl | rfl | rfl | rfl | rfl | rfl | rfl <;> rfl

set_option maxRecDepth 100000 in
set_option maxHeartbeats 1000000 in
theorem dig_one (n : Int) (w : World) (h0 : 0 ≤ n) (h1 : n < 10) :
    Calls Tryd.prog 52 #[.int .i64 n] w fun e w' => e = .returned (.string (decB n.toNat)) ∧ w = w' := by
  have HE := Lib.hid (enc_digit h0 h1)
  go_enter Tryd.func52, Tryd.ntmps52
  go_wp2
  go_ret
  exact ⟨ret_str HE.out, rfl⟩

set_option maxRecDepth 100000 in
set_option maxHeartbeats 1000000 in
theorem dig_more (n : Int) (w : World) (h0 : 10 ≤ n) (h1 : n ≤ 2147483647)
    (c1 : ∀ W, Calls Tryd.prog 52 #[.int .i64 (n / 10)] W fun e w' => e = .returned (.string (decB (n / 10).toNat)) ∧ W = w')
    (c2 : ∀ W, Calls Tryd.prog 52 #[.int .i64 (n % 10)] W fun e w' => e = .returned (.string (decB (n % 10).toNat)) ∧ W = w')
    (hz : (decB (n / 10).toNat).size + (decB (n % 10).toNat).size ≤ 100) :
    Calls Tryd.prog 52 #[.int .i64 n] w fun e w' => e = .returned (.string (decB n.toNat)) ∧ w = w' := by
  have C1 := Lib.hid c1
  have C2 := Lib.hid c2
  clear c1 c2
  have HE := Lib.hid (decB_step h0)
  have h3 : 0 ≤ n := by omega
  go_enter Tryd.func52, Tryd.ntmps52
  go_wp2_with fail
  refine (C1.out _).mono ?_
  rintro e w1 ⟨rfl, rfl⟩
  go_wp2_with fail
  refine (C2.out _).mono ?_
  rintro e w1 ⟨rfl, rfl⟩
  go_wp2
  go_ret
  exact ⟨ret_str HE.out, rfl⟩

set_option maxRecDepth 100000 in
set_option maxHeartbeats 1000000 in
theorem dig_neg1 (m : Int) (w : World) (h0 : 1 ≤ m) (h1 : m < 10) (hz : (decB m.toNat).size ≤ 100) :
    Calls Tryd.prog 52 #[.int .i64 (-m)] w fun e w' => e = .returned (.string (negB m.toNat)) ∧ w = w' := by
  have HE := Lib.hid (negB_one m)
  go_enter Tryd.func52, Tryd.ntmps52
  go_wp2_with fail
  refine (dig_one m _ (by omega) h1).mono ?_
  rintro e w1 ⟨rfl, rfl⟩
  go_wp2
  go_ret
  exact ⟨ret_str HE.out, rfl⟩

set_option maxRecDepth 100000 in
set_option maxHeartbeats 1000000 in
theorem dig_neg2 (m : Int) (w : World) (h0 : 10 ≤ m) (h1 : m ≤ 2147483647)
    (c1 : ∀ W, Calls Tryd.prog 52 #[.int .i64 (-(m / 10))] W fun e w' => e = .returned (.string (negB (m / 10).toNat)) ∧ W = w')
    (c2 : ∀ W, Calls Tryd.prog 52 #[.int .i64 (m % 10)] W fun e w' => e = .returned (.string (decB (m % 10).toNat)) ∧ W = w')
    (hz : (negB (m / 10).toNat).size + (decB (m % 10).toNat).size ≤ 100) :
    Calls Tryd.prog 52 #[.int .i64 (-m)] w fun e w' => e = .returned (.string (negB m.toNat)) ∧ w = w' := by
  have C1 := Lib.hid c1
  have C2 := Lib.hid c2
  clear c1 c2
  have HE := Lib.hid (negB_step h0)
  have ed : m.tdiv 10 = m / 10 := Int.tdiv_eq_ediv_of_nonneg (by omega)
  have e1 : wrap64 (-(m.tdiv 10)) = -(m / 10) := by rw [ed]; exact IntWalk.wrap64_in _ ⟨by omega, by omega⟩
  have E1 := Lib.hid e1
  clear ed e1
  go_enter Tryd.func52, Tryd.ntmps52
  go_wp2_with fail
  rw [E1.out]
  refine (C1.out _).mono ?_
  rintro e w1 ⟨rfl, rfl⟩
  go_wp2_with fail
  refine (C2.out _).mono ?_
  rintro e w1 ⟨rfl, rfl⟩
  go_wp2
  go_ret
  exact ⟨ret_str HE.out, rfl⟩

theorem decB_size {u : Nat} (h : u ≤ 2147483647) : (decB u).size ≤ 10 := by
  show (Lib.decDigits u).toArray.size ≤ 10
  have : (Lib.decDigits u).length ≤ 10 := by rw [Lib.decDigits_length]; exact nDigits_le 10 u (by omega) (by omega)
  simpa using this
theorem negB_size {u : Nat} (h : u ≤ 2147483647) : (negB u).size ≤ 11 := by
  show (45 :: Lib.decDigits u).toArray.size ≤ 11
  have : (Lib.decDigits u).length ≤ 10 := by rw [Lib.decDigits_length]; exact nDigits_le 10 u (by omega) (by omega)
  simpa using this
theorem dig_pos : ∀ (u : Nat) (n : Int) (w : World), n.toNat = u → 0 ≤ n → n ≤ 2147483647 →
    Calls Tryd.prog 52 #[.int .i64 n] w fun e w' => e = .returned (.string (decB n.toNat)) ∧ w = w' := by
  intro u
  induction u using Nat.strongRecOn with
  | _ u ih =>
    intro n w hu h0 h1
    by_cases hn : n < 10
    · exact dig_one n w h0 hn
    · have s1 := decB_size (u := (n / 10).toNat) (by omega)
      have s2 := decB_size (u := (n % 10).toNat) (by omega)
      exact dig_more n w (by omega) h1 (fun W => ih _ (by omega) (n / 10) W rfl (by omega) (by omega)) (fun W => ih _ (by omega) (n % 10) W rfl (by omega) (by omega)) (by omega)
theorem dig_negs : ∀ (u : Nat) (m : Int) (w : World), m.toNat = u → 1 ≤ m → m ≤ 2147483647 →
    Calls Tryd.prog 52 #[.int .i64 (-m)] w fun e w' => e = .returned (.string (negB m.toNat)) ∧ w = w' := by
  intro u
  induction u using Nat.strongRecOn with
  | _ u ih =>
    intro m w hu h0 h1
    by_cases hn : m < 10
    · have s1 := decB_size (u := m.toNat) (by omega)
      exact dig_neg1 m w h0 hn (by omega)
    · have s1 := negB_size (u := (m / 10).toNat) (by omega)
      have s2 := decB_size (u := (m % 10).toNat) (by omega)
      exact dig_neg2 m w (by omega) h1 (fun W => ih _ (by omega) (m / 10) W rfl (by omega) (by omega)) (fun W => dig_pos _ (m % 10) W rfl (by omega) (by omega)) (by omega)

theorem Digits_any (n : Int) (h : inRng n = true) (w : World) :
    Calls Tryd.prog 52 #[.int .i64 n] w fun e w' => e = .returned (.string (itoaB n)) ∧ w = w' := by
  obtain ⟨h1, h2⟩ := inRng_iff.1 h
  by_cases hn : n < 0
  · have e : itoaB n = negB (-n).toNat := by
      unfold itoaB negB Lib.itoa
      rw [if_pos hn]
      have : n.natAbs = (-n).toNat := by omega
      rw [this]
    rw [e]
    have := dig_negs _ (-n) w rfl (by omega) (by omega)
    rwa [Int.neg_neg] at this
  · have e : itoaB n = decB n.toNat := by
      unfold itoaB decB Lib.itoa
      rw [if_neg hn]
    rw [e]
    exact dig_pos _ n w rfl (by omega) (by omega)

theorem refRight_is (k n : Int) (s : ByteArray) (b : Bool) (h : isRight k n s = b) (hs : s.size ≤ maxLen) (w : World) :
    Calls Tryd.prog 32 #[vv k n s] w fun e w' => e = .returned (.bool b) ∧ Below w.heap.size w w' := by
  subst h; exact refRight_any k n s w hs

theorem right_sym {k n : Int} {s : ByteArray} (hk : ¬ k = 2) (h : isRight k n s = true) : k = 1 := by
  unfold isRight at h
  split at h
  · assumption
  · cases h

set_option maxRecDepth 100000 in
set_option maxHeartbeats 1000000 in
theorem refText_any (k n : Int) (s : ByteArray) (w : World) (hs : s.size ≤ maxLen) :
    Calls Tryd.prog 35 #[vv k n s] w fun e w' => e = .returned (.string (textV k n s)) ∧ Below w.heap.size w w' := by
  have x0 := Box.new w k n s
  have B0 := (Below.refl w.heap.size w).alloc (o := .cells #[.int .i64 k, .int .i64 n, .string s] 30) (Nat.le_refl _)
  cases hr : isRight k n s with
  | false =>
    have HR := Lib.hid hr
    have HX := Lib.hid (show textV k n s = noText by simp only [textV, hr]; rfl)
    clear hr
    go_enter Tryd.func35, Tryd.ntmps35
    go_wp2_with fail
    refine (refRight_is _ _ _ _ HR.out hs _).mono ?_
    rintro e w1 ⟨rfl, b1⟩
    go_wp2
    go_ret
    exact ⟨ret_str HX.out.symm, B0.trans (b1.mono B0.size)⟩
  | true =>
    have HR := Lib.hid hr
    by_cases hk : k = 2
    · subst hk
      have HX := Lib.hid (show textV 2 n s = s by simp only [textV, hr]; rfl)
      clear hr
      go_enter Tryd.func35, Tryd.ntmps35
      go_wp2_with fail
      refine (refRight_is _ _ _ _ HR.out hs _).mono ?_
      rintro e w1 ⟨rfl, b1⟩
      obtain ⟨p0, p1, p2, p3⟩ := x0.below b1
      go_wp2
      go_ret
      exact ⟨ret_str HX.out.symm, B0.trans (b1.mono B0.size)⟩
    · obtain rfl := right_sym hk hr
      obtain ⟨hn, rfl⟩ := right_one hr
      have HN := Lib.hid hn
      have HX := Lib.hid (show textV 1 n noText = itoaB n by simp only [textV, hr]; rfl)
      clear hr hn hk
      go_enter Tryd.func35, Tryd.ntmps35
      go_wp2_with fail
      refine (refRight_is _ _ _ _ HR.out hs _).mono ?_
      rintro e w1 ⟨rfl, b1⟩
      obtain ⟨p0, p1, p2, p3⟩ := x0.below b1
      go_wp2_with fail
      refine (Digits_any _ HN.out _).mono ?_
      rintro e w2 ⟨rfl, rfl⟩
      go_wp2
      go_ret
      exact ⟨ret_str HX.out.symm, B0.trans (b1.mono B0.size)⟩

end Go.Proofs.YteamogdbhoajkaaDoor
