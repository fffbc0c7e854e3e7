/- corollaryref01's figures: Digits gives a number's decimal text, Text a value's text, Hash its hash. Conditions: numbers that a value may have. -/
import Derived.Test.YtlfakhjcpdkaiaaGreatDoorValMix
namespace Go.Proofs.YtlfakhjcpdkaiaaGreatDoor
open Go.RowKit

def decB (u : Nat) : ByteArray := ⟨(Lib.decDigits u).toArray⟩
def negB (u : Nat) : ByteArray := ⟨(45 :: Lib.decDigits u).toArray⟩
theorem bytes_append (a b : List UInt8) : (⟨a.toArray⟩ : ByteArray) ++ ⟨b.toArray⟩ = ⟨(a ++ b).toArray⟩ := by
  apply ByteArray.ext
  simp
theorem dec_step {u : Nat} (h : 10 ≤ u) : Lib.decDigits u = Lib.decDigits (u / 10) ++ Lib.decDigits (u % 10) := by
  rw [Lib.decDigits, dif_neg (by omega), Lib.decDigits_one (i := u % 10) (by omega)]
theorem decB_step {n : Int} (h : 10 ≤ n) : decB (n / 10).toNat ++ decB (n % 10).toNat = decB n.toNat := by
  unfold decB
  rw [bytes_append]
  have e := dec_step (u := n.toNat) (by omega)
  rw [e]
  have e1 : (n / 10).toNat = n.toNat / 10 := by omega
  have e2 : (n % 10).toNat = n.toNat % 10 := by omega
  rw [e1, e2]
theorem negB_step {n : Int} (h : 10 ≤ n) : negB (n / 10).toNat ++ decB (n % 10).toNat = negB n.toNat := by
  unfold decB negB
  rw [bytes_append]
  have e := dec_step (u := n.toNat) (by omega)
  rw [e]
  have e1 : (n / 10).toNat = n.toNat / 10 := by omega
  have e2 : (n % 10).toNat = n.toNat % 10 := by omega
  rw [e1, e2]
  rfl
theorem negB_one (n : Int) : (⟨#[45]⟩ : ByteArray) ++ decB n.toNat = negB n.toNat := by
  unfold decB negB
  rw [show (⟨#[45]⟩ : ByteArray) = ⟨[(45 : UInt8)].toArray⟩ from rfl, bytes_append]
  rfl
theorem enc_digit {n : Int} (h0 : 0 ≤ n) (h1 : n < 10) : Utf8.encode (48 + n) = decB n.toNat := by
  have h : n = 0 ∨ n = 1 ∨ n = 2 ∨ n = 3 ∨ n = 4 ∨ n = 5 ∨ n = 6 ∨ n = 7 ∨ n = 8 ∨ n = 9 := by omega
  unfold decB
  rw [Lib.decDigits_one (by omega)]
  rcases h with rfl | rfl | rfl | rfl | rfl | rfl | rfl | rfl | rfl | rfl <;> rfl

theorem decB_size {u : Nat} (h : u ≤ 2147483647) : (decB u).size ≤ 10 := by
  show (Lib.decDigits u).toArray.size ≤ 10
  have : (Lib.decDigits u).length ≤ 10 := by rw [Lib.decDigits_length]; exact nDigits_le 10 u (by omega) (by omega)
  simpa using this
theorem negB_size {u : Nat} (h : u ≤ 2147483647) : (negB u).size ≤ 11 := by
  show (45 :: Lib.decDigits u).toArray.size ≤ 11
  have : (Lib.decDigits u).length ≤ 10 := by rw [Lib.decDigits_length]; exact nDigits_le 10 u (by omega) (by omega)
  simpa using this
theorem refRight_is (k n : Int) (s : ByteArray) (b : Bool) (h : isRight k n s = b) (hs : s.size ≤ maxLen) (w : World) :
    Calls Tryz.prog 77 #[vv k n s] w fun e w' => e = .returned (.bool b) ∧ Below w.heap.size w w' := by
  subst h; exact refRight_any k n s w hs

theorem right_sym {k n : Int} {s : ByteArray} (hk : ¬ k = 2) (h : isRight k n s = true) : k = 1 := by
  unfold isRight at h
  split at h
  · assumption
  · cases h

end Go.Proofs.YtlfakhjcpdkaiaaGreatDoor
