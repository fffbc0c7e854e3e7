/- The small functions of package value, of corollarynum and of package cmp as they stand at this seat: what each call gives, for every argument; nothing that lay in memory changes. Conditions: none. -/
import Derived.Test.YtlfakhjcpdkaiaaGreatDoorRows
import Derived.WalkKit
import Derived.WalkSpells
import Derived.WalkLawsBesides
namespace Go.Proofs.YtlfakhjcpdkaiaaGreatDoor
open Go.RowKit

/-- 'n lies in the range of a value's number', as a Bool of its own. -/
def inRng (n : Int) : Bool := decide (-2147483647 ≤ n) && decide (n ≤ 2147483647)
theorem inRng_true {n : Int} (h1 : -2147483647 ≤ n) (h2 : n ≤ 2147483647) : inRng n = true := by simp [inRng, h1, h2]
theorem inRng_iff {n : Int} : inRng n = true ↔ -2147483647 ≤ n ∧ n ≤ 2147483647 := by simp [inRng]
theorem inRng_false {n : Int} (h : inRng n = false) : ¬ (-2147483647 ≤ n ∧ n ≤ 2147483647) := by
  intro h'; rw [inRng_true h'.1 h'.2] at h; cases h

set_option maxHeartbeats 400000 in
theorem inRange_any (n : Int) (w : World) :
    Calls Tryz.prog 82 #[.int .i64 n] w fun e w' => e = .returned (.bool (inRng n)) ∧ w = w' := by
  by_cases h1 : -2147483647 ≤ n
  · by_cases h2 : n ≤ 2147483647
    · have hb := inRng_true h1 h2
      rw [hb]; clear hb
      go_enter Tryz.func82, Tryz.ntmps82
      go_wp2
      go_ret
      exact ⟨rfl, rfl⟩
    · have hb : inRng n = false := by simp [inRng, h2]
      rw [hb]; clear hb
      go_enter Tryz.func82, Tryz.ntmps82
      go_wp2
      go_ret
      exact ⟨rfl, rfl⟩
  · have hb : inRng n = false := by simp [inRng, h1]
    rw [hb]; clear hb
    go_enter Tryz.func82, Tryz.ntmps82
    go_wp2
    go_ret
    exact ⟨rfl, rfl⟩

/-- a letter, as a Bool. -/
def isLet (c : UInt8) : Bool := decide (97 ≤ (c.toNat : Int)) && decide ((c.toNat : Int) ≤ 122)
def isDig (c : UInt8) : Bool := decide (48 ≤ (c.toNat : Int)) && decide ((c.toNat : Int) ≤ 57)

set_option maxHeartbeats 400000 in
theorem letter_any (c : UInt8) (w : World) :
    Calls Tryz.prog 92 #[.int .u8 c.toNat] w fun e w' => e = .returned (.bool (isLet c)) ∧ w = w' := by
  by_cases h1 : 97 ≤ (c.toNat : Int)
  · by_cases h2 : (c.toNat : Int) ≤ 122
    · have hb : isLet c = true := by simp only [isLet, h1, h2]; rfl
      rw [hb]; clear hb
      go_enter Tryz.func92, Tryz.ntmps92
      go_wp2
      go_ret
      exact ⟨rfl, rfl⟩
    · have hb : isLet c = false := by simp only [isLet, h2]; simp
      rw [hb]; clear hb
      go_enter Tryz.func92, Tryz.ntmps92
      go_wp2
      go_ret
      exact ⟨rfl, rfl⟩
  · have hb : isLet c = false := by simp only [isLet, h1]; simp
    rw [hb]; clear hb
    go_enter Tryz.func92, Tryz.ntmps92
    go_wp2
    go_ret
    exact ⟨rfl, rfl⟩

set_option maxHeartbeats 400000 in
theorem digit_any (c : UInt8) (w : World) :
    Calls Tryz.prog 93 #[.int .u8 c.toNat] w fun e w' => e = .returned (.bool (isDig c)) ∧ w = w' := by
  by_cases h1 : 48 ≤ (c.toNat : Int)
  · by_cases h2 : (c.toNat : Int) ≤ 57
    · have hb : isDig c = true := by simp only [isDig, h1, h2]; rfl
      rw [hb]; clear hb
      go_enter Tryz.func93, Tryz.ntmps93
      go_wp2
      go_ret
      exact ⟨rfl, rfl⟩
    · have hb : isDig c = false := by simp only [isDig, h2]; simp
      rw [hb]; clear hb
      go_enter Tryz.func93, Tryz.ntmps93
      go_wp2
      go_ret
      exact ⟨rfl, rfl⟩
  · have hb : isDig c = false := by simp only [isDig, h1]; simp
    rw [hb]; clear hb
    go_enter Tryz.func93, Tryz.ntmps93
    go_wp2
    go_ret
    exact ⟨rfl, rfl⟩

/-- a value as the model has it. -/
abbrev vv (k n : Int) (s : ByteArray) : Value := .agg #[.int .i64 k, .int .i64 n, .string s]

/-- 'longer than 500', as a Bool of its own. -/
def isLong (s : ByteArray) : Bool := decide (500 < (s.size : Int))

/-- three ways: less, equal, greater. -/
def cmpI (a b : Int) : Int := if a < b then -1 else if b < a then 1 else 0

end Go.Proofs.YtlfakhjcpdkaiaaGreatDoor
