/- A number's decimal text, in plain words: its bytes are digits (one hyphen ahead of a negative one), it is no name, and read as a number again it is that number. Conditions: numbers of at most ten digits. -/
import Derived.Test.YtlfakhjcpdkaiaaGreatDoorValName
import Derived.Lib.Atoi
import Derived.Lib.ItoaNum
import Derived.Lib.ItoaMem
namespace Go.Proofs.YtlfakhjcpdkaiaaGreatDoor
open Go.RowKit

theorem u8_digit {k : Nat} (h : k < 10) : (UInt8.ofNat (48 + k)).toNat = 48 + k := by
  rw [UInt8.toNat_ofNat']; omega
theorem dec_digits (u : Nat) : ∀ c ∈ Lib.decDigits u, 48 ≤ c.toNat ∧ c.toNat ≤ 57 := by
  induction u using Nat.strongRecOn with
  | _ u ih =>
    intro c hc
    rw [Lib.decDigits] at hc
    split at hc
    · rename_i h
      simp only [List.mem_singleton] at hc
      subst hc
      rw [u8_digit h]; omega
    · rename_i h
      rcases List.mem_append.1 hc with hc | hc
      · exact ih (u / 10) (by omega) c hc
      · simp only [List.mem_singleton] at hc
        subst hc
        rw [u8_digit (by omega)]; omega
theorem dec_ne (u : Nat) : Lib.decDigits u ≠ [] := by
  rw [Lib.decDigits]
  split
  · simp
  · simp
theorem decFrom_append (l m : List UInt8) : ∀ a b : Nat, Lib.decFrom a l = some b → Lib.decFrom a (l ++ m) = Lib.decFrom b m := by
  induction l with
  | nil => intro a b h; simp [Lib.decFrom] at h; subst h; rfl
  | cons c r ih =>
    intro a b h
    simp only [Lib.decFrom, List.cons_append] at h ⊢
    split at h
    · rename_i d hc
      exact ih _ _ h
    · cases h
theorem digitVal_dec {k : Nat} (h : k < 10) : Lib.digitVal (UInt8.ofNat (48 + k)) = some k := by
  have e := u8_digit h
  unfold Lib.digitVal
  simp only [e]
  simp
  omega
theorem decFrom_dec (u : Nat) : Lib.decFrom 0 (Lib.decDigits u) = some u := by
  induction u using Nat.strongRecOn with
  | _ u ih =>
    rw [Lib.decDigits]
    split
    · rename_i h
      simp only [Lib.decFrom, digitVal_dec h]
      congr 1; omega
    · rename_i h
      rw [decFrom_append _ _ _ _ (ih (u / 10) (by omega))]
      have e := digitVal_dec (k := u % 10) (by omega)
      simp only [Lib.decFrom, e]
      congr 1; omega
theorem decNat_dec (u : Nat) : Lib.decNat (Lib.decDigits u) = some u := by
  unfold Lib.decNat
  have : (Lib.decDigits u).isEmpty = false := by
    cases h : Lib.decDigits u with
    | nil => exact absurd h (dec_ne u)
    | cons _ _ => rfl
  rw [this, decFrom_dec]; rfl
theorem nDigits_le : ∀ (k u : Nat), 1 ≤ k → u < 10 ^ k → Lib.nDigits u ≤ k
  | 0, _, h, _ => by omega
  | 1, u, _, h => by rw [Lib.nDigits_small (by simpa using h)]; omega
  | k + 2, u, _, h => by
    by_cases hu : u < 10
    · rw [Lib.nDigits_small hu]; omega
    · rw [Lib.nDigits_big hu]
      have := nDigits_le (k + 1) (u / 10) (by omega) (by rw [Nat.pow_succ] at h; omega)
      omega

theorem atoi_itoa (n : Int) : Lib.atoi (Lib.itoa n) = some n := by
  unfold Lib.itoa
  split
  · rename_i h
    have e : ((45 : UInt8) == 45) = true := rfl
    simp only [Lib.atoi, e, if_pos, decNat_dec, Option.map_some]
    congr 1; omega
  · rename_i h
    have hd := dec_digits n.toNat
    have he := decNat_dec n.toNat
    cases hl : Lib.decDigits n.toNat with
    | nil => exact absurd hl (dec_ne _)
    | cons b r =>
      rw [hl] at hd he
      have hb := hd b (by simp)
      have e1 : (b == 45) = false := by
        cases hx : b == 45 with
        | false => rfl
        | true => have := beq_iff_eq.1 hx; subst this; simp at hb
      have e2 : (b == 43) = false := by
        cases hx : b == 43 with
        | false => rfl
        | true => have := beq_iff_eq.1 hx; subst this; simp at hb
      simp only [Lib.atoi, e1, e2, he, Option.map_some]
      simp; omega
theorem itoa_len {n : Int} (h1 : -2147483647 ≤ n) (h2 : n ≤ 2147483647) : (Lib.itoa n).length ≤ 11 := by
  unfold Lib.itoa
  have hk : ∀ u : Nat, u ≤ 2147483647 → (Lib.decDigits u).length ≤ 10 := fun u hu => by
    rw [Lib.decDigits_length]; exact nDigits_le 10 u (by omega) (by omega)
  split
  · have := hk n.natAbs (by omega); simp; omega
  · have := hk n.toNat (by omega); omega
theorem itoa_noname (n : Int) : isName (Lib.itoa n) = false := by
  have key : ∀ (c : UInt8) (r : List UInt8), isLet c = false → isName (c :: r) = false := fun c r h => by simp [isName, okFrom, h]
  unfold Lib.itoa
  split
  · exact key _ _ (by decide)
  · have hd := dec_digits n.toNat
    cases hl : Lib.decDigits n.toNat with
    | nil => rfl
    | cons b r =>
      rw [hl] at hd
      have hb := hd b (by simp)
      exact key _ _ (isLet_lo (by omega))

end Go.Proofs.YtlfakhjcpdkaiaaGreatDoor
