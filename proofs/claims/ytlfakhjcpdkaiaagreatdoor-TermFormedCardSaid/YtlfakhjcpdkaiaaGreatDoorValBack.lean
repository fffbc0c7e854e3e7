/- ValueBack's walk: the law's own steps, for every value. Conditions: the library's table and its two sentinel errors. -/
import Derived.Test.YtlfakhjcpdkaiaaGreatDoorValParse
namespace Go.Proofs.YtlfakhjcpdkaiaaGreatDoor
open Go.RowKit

theorem long_small {s : ByteArray} (h : isLong s = false) : s.size ≤ 500 := by
  simp [isLong] at h; omega
theorem right_two {k n : Int} {s : ByteArray} (hk : ¬ k = 1) (h : isRight k n s = true) : k = 2 ∧ n = 0 ∧ isName s.data.toList = true := by
  unfold isRight at h
  rw [if_neg hk] at h
  split at h
  · rename_i h2
    simp only [Bool.and_eq_true, beq_iff_eq] at h
    exact ⟨h2, h.1, h.2⟩
  · cases h
theorem text_sym {s : ByteArray} (h : isName s.data.toList = true) : textV 2 0 s = s := by
  have : isRight 2 0 s = true := by simp [isRight, h]
  simp only [textV, this]; rfl
theorem atoi_num {n : Int} (h : inRng n = true) : Lib.atoiAll (itoaB n).data.toList = .ok n := by
  obtain ⟨h1, h2⟩ := inRng_iff.1 h
  have hl := itoa_len h1 h2
  show Lib.atoiAll (Lib.itoa n) = _
  rw [Lib.atoiAll_short _ (by omega), atoi_itoa]; rfl
theorem itoaB_size {n : Int} (h : inRng n = true) : (itoaB n).size ≤ 11 := by
  obtain ⟨h1, h2⟩ := inRng_iff.1 h
  have hl := itoa_len h1 h2
  show (Lib.itoa n).toArray.size ≤ 11
  simpa using hl

end Go.Proofs.YtlfakhjcpdkaiaaGreatDoor
