/- The hash's step by step: value.Mix over a row of bytes and corollaryref01.Mix over a text come to the same number. Conditions: texts no longer than Go's longest. -/
import Derived.Test.YtlfakhjcpdkaiaaGreatDoorValText
import Derived.Test.YtlfakhjcpdkaiaaGreatDoorValNum
import Derived.Lib.ConvBytes
import Derived.Lib.SmallJoins
namespace Go.Proofs.YtlfakhjcpdkaiaaGreatDoor
open Go.RowKit

/-- one byte more. -/
def mixStep (h : Int) (c : UInt8) : Int := bits .xor .u32 h ((c.toNat : Int) % 4294967296) * 16777619 % 4294967296
def mixL (h : Int) (l : List UInt8) : Int := l.foldl mixStep h
theorem mixL_snoc (h : Int) (l : List UInt8) (c : UInt8) : mixL h (l ++ [c]) = mixStep (mixL h l) c := by simp [mixL, List.foldl_append]
theorem ret_u32 {a b : Int} (h : a = b) : Ending.returned (.int .u32 a) = Ending.returned (.int .u32 b) := by rw [h]

theorem below_bytesM (w : World) (e : TypeId) (s : ByteArray) : Below w.heap.size w (Lib.bytesWorld w e s) :=
  Joins.below_bytesWorld w.heap.size w e s (Nat.le_refl _)
theorem conv_bytes (s : ByteArray) (w : World) : (convert 9 172 (.string s)).run Tryz.prog w = .ok (.slice (some ⟨w.heap.size, 0, none⟩) s.size (grownCap w s.size 0 5)) (Lib.bytesWorld w 5 s) :=
  Lib.run_convert_string_bytes w 9 172 5 s Tryz.underlying9 Tryz.underlying172 Tryz.underlying5

theorem textV_size {k n : Int} {s : ByteArray} (hs : s.size ≤ maxLen) : (textV k n s).size ≤ maxLen := by
  unfold textV
  split
  · rename_i hr
    split
    · rename_i hk
      subst hk
      obtain ⟨hn, _⟩ := right_one hr
      obtain ⟨h1, h2⟩ := inRng_iff.1 hn
      have hl := itoa_len h1 h2
      have : (itoaB n).size ≤ 11 := by
        show (Lib.itoa n).toArray.size ≤ 11
        simpa using hl
      exact Nat.le_trans this (by decide)
    · exact hs
  · exact Nat.zero_le _

end Go.Proofs.YtlfakhjcpdkaiaaGreatDoor
