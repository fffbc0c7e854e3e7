/- The hash's step by step: value.Mix over a row of bytes and corollaryref01.Mix over a text come to the same number. Conditions: texts no longer than Go's longest. -/
import Derived.Test.YteamogdbhoajkaaDoorValText
import Derived.Test.YteamogdbhoajkaaDoorValNum
import Derived.Lib.ConvBytes
import Derived.Lib.SmallJoins
namespace Go.Proofs.YteamogdbhoajkaaDoor
open Go.RowKit

/-- one byte more. -/
def mixStep (h : Int) (c : UInt8) : Int := bits .xor .u32 h ((c.toNat : Int) % 4294967296) * 16777619 % 4294967296
def mixL (h : Int) (l : List UInt8) : Int := l.foldl mixStep h
theorem mixL_snoc (h : Int) (l : List UInt8) (c : UInt8) : mixL h (l ++ [c]) = mixStep (mixL h l) c := by simp [mixL, List.foldl_append]
theorem ret_u32 {a b : Int} (h : a = b) : Ending.returned (.int .u32 a) = Ending.returned (.int .u32 b) := by rw [h]

set_option maxRecDepth 100000 in
set_option maxHeartbeats 1000000 in
theorem refMix_any (h : Int) (s : ByteArray) (w : World) (hs : s.size ≤ maxLen) :
    Calls Tryd.prog 37 #[.int .u32 h, .string s] w fun e w' => e = .returned (.int .u32 (mixL h s.data.toList)) ∧ w = w' := by
  unfold maxLen at hs
  go_enter Tryd.func37, Tryd.ntmps37
  go_wp2
  go_loop [0, 5] (fun h' i => ∃ k : Nat, k ≤ s.size ∧ i = .int .i64 k ∧ ∃ x : Int, Hid (x = mixL h (s.data.toList.take k)) ∧ h' = .int .u32 x) (fun _ i => s.size - (intOf i).toNat)
  case atStart => exact ⟨0, Nat.zero_le _, rfl, h, rfl, rfl⟩
  case round =>
    obtain ⟨k, hk, rfl, x, HX, rfl⟩ := hrel
    by_cases hlt : k < s.size
    · have HS := Lib.hid (show mixStep x s[k] = mixL h (s.data.toList.take (k + 1)) by rw [take_snoc s k hlt, mixL_snoc, ← HX.out])
      go_wp2
      go_round
      case rel => exact ⟨k + 1, by omega, by go_num, _, HS.out, rfl⟩
      case measure => simp [intOf]; omega
    · go_wp2
      go_ret
      exact ⟨ret_u32 (by rw [HX.out, List.take_of_length_le (by simp; omega)]), rfl⟩

set_option maxRecDepth 100000 in
set_option maxHeartbeats 1000000 in
theorem Mix_any (h : Int) (s : ByteArray) (B cap : Nat) (w : World) (hs : s.size ≤ maxLen)
    (hc : ∀ j, j < s.size → w.cell? ⟨B, j, none⟩ = some (.int .u8 (s.data.toList.getD j 0).toNat)) :
    Calls Tryd.prog 36 #[.int .u32 h, .slice (some ⟨B, 0, none⟩) s.size cap] w fun e w' => e = .returned (.int .u32 (mixL h s.data.toList)) ∧ w = w' := by
  unfold maxLen at hs
  have HC := Lib.hid hc
  clear hc
  go_enter Tryd.func36, Tryd.ntmps36
  go_wp2
  go_loop [0, 9] (fun h' i => ∃ k : Nat, k ≤ s.size ∧ i = .int .i64 k ∧ ∃ x : Int, Hid (x = mixL h (s.data.toList.take k)) ∧ h' = .int .u32 x) (fun _ i => s.size - (intOf i).toNat)
  case atStart => exact ⟨0, Nat.zero_le _, rfl, h, rfl, rfl⟩
  case round =>
    obtain ⟨k, hk, rfl, x, HX, rfl⟩ := hrel
    by_cases hlt : k < s.size
    · have HS := Lib.hid (show mixStep x s[k] = mixL h (s.data.toList.take (k + 1)) by rw [take_snoc s k hlt, mixL_snoc, ← HX.out])
      have hcell : w.cell? ⟨B, k, none⟩ = some (.int .u8 s[k].toNat) := by
        rw [HC.out k hlt]
        simp [List.getD, hlt]; rfl
      go_wp2
      go_round
      case rel => exact ⟨k + 1, by omega, by go_num, _, HS.out, rfl⟩
      case measure => simp [intOf]; omega
    · go_wp2
      go_ret
      exact ⟨ret_u32 (by rw [HX.out, List.take_of_length_le (by simp; omega)]), rfl⟩

theorem below_bytesM (w : World) (e : TypeId) (s : ByteArray) : Below w.heap.size w (Lib.bytesWorld w e s) :=
  Joins.below_bytesWorld w.heap.size w e s (Nat.le_refl _)
theorem conv_bytes (s : ByteArray) (w : World) : (convert 9 65 (.string s)).run Tryd.prog w = .ok (.slice (some ⟨w.heap.size, 0, none⟩) s.size (grownCap w s.size 0 5)) (Lib.bytesWorld w 5 s) :=
  Lib.run_convert_string_bytes w 9 65 5 s Tryd.underlying9 Tryd.underlying65 Tryd.underlying5

theorem textV_size {k n : Int} {s : ByteArray} (hs : s.size ≤ maxLen) : (textV k n s).size ≤ maxLen := by
  unfold textV
  split
  · rename_i hr
    split
    · rename_i hk
      subst hk
      obtain ⟨hn, _⟩ := right_one hr
      obtain ⟨h1, h2⟩ := inRng_iff.1 hn
      have hl := itoa_len h1 h2
      have : (itoaB n).size ≤ 11 := by
        show (Lib.itoa n).toArray.size ≤ 11
        simpa using hl
      exact Nat.le_trans this (by decide)
    · exact hs
  · exact Nat.zero_le _

end Go.Proofs.YteamogdbhoajkaaDoor
