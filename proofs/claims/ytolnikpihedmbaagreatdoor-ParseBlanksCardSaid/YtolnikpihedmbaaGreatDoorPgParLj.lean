/- List, and the document's tokens, with the capacity. Conditions: lex's two tables and strconv's variables as they are laid. -/
import Derived.Test.YtolnikpihedmbaaGreatDoorPbParLj
import Derived.Test.YtolnikpihedmbaaGreatDoorPbF
import Derived.Test.YtolnikpihedmbaaGreatDoorPbD
import Derived.Test.YtolnikpihedmbaaGreatDoorPbC
import Derived.Test.YtolnikpihedmbaaGreatDoorPbA
import Derived.Test.YtolnikpihedmbaaGreatDoorRows
import Derived.Test.YtolnikpihedmbaaGreatDoorPbB
import Derived.Test.YtolnikpihedmbaaGreatDoorPgA
import Derived.Test.YtolnikpihedmbaaGreatDoorShelf
import Derived.Test.YtolnikpihedmbaaGreatDoorShelfA
import Derived.Test.YtolnikpihedmbaaGreatDoorPbH
import Derived.Test.YtolnikpihedmbaaGreatDoorPgH
import Derived.StillTailTactics
import Derived.RegionIn
set_option linter.unusedVariables false
set_option linter.unusedSimpArgs false
namespace Go.Proofs.YtolnikpihedmbaaGreatDoor
open Go.RowKit Go.Deep Go.Shelf
attribute [local go_sem] Oper.semAt_some

set_option maxRecDepth 100000 in
set_option maxHeartbeats 400000 in
theorem Num_any (n : Int) (w : World) : Calls Tryz.prog 9 #[errV n] w fun e w' => e = .returned (.int .i64 n) ∧ w = w' := by
  by_cases h0 : n = 0
  · subst h0
    rw [err0]
    have k1 : ∀ w, (binOp .eql 28 .nilIface .nilIface).run Tryz.prog w = .ok (.bool true) w := fun w => by kernel_rfl
    go_enter Tryz.func9, Tryz.ntmps9
    go_wp2
    go_ret
    exact ⟨rfl, rfl⟩
  · have e : errV n = eno n := by simp [errV, h0]
    rw [e]
    have hb : (n != 0) = true := by simpa using h0
    have k1 : ∀ w, (binOp .eql 28 (eno n) .nilIface).run Tryz.prog w = .ok (.bool false) w := fun w => by kernel_rfl
    have k2 := fun w => assert_eno n w
    clear h0 e
    go_enter Tryz.func9, Tryz.ntmps9
    go_wp2
    go_ret
    exact ⟨rfl, rfl⟩

def RaU (w : World) (a : List Tk × Int × Int) (e : Ending) (w' : World) : Prop := ∃ A c, e = .returned (.tuple #[.slice A a.1.length c, .int .i64 a.2.2, .int .i64 a.2.1]) ∧ TRow w' A a.1 ∧ Below w.heap.size w w'
set_option maxRecDepth 100000 in
set_option maxHeartbeats 400000 in
theorem refAll_any (s : ByteArray) (w : World) (hs : s.size ≤ maxLen) :
    Calls Tryz.prog 8 #[.string s] w fun e w' => RaU w (ansOf s) e w' := by
  unfold maxLen at hs
  by_cases hl : 4000 < s.size
  · have HQ : Hid (RaU w (ansOf s) (.returned (.tuple #[.slice none 0 0, .int .i64 4000, .int .i64 3])) w) := by
      show RaU _ _ _ _
      unfold RaU ansOf
      rw [if_pos hl]
      exact ⟨none, 0, rfl, row_nil _ _, Below.refl _ _⟩
    have hli : (4000 : Int) < (s.size : Int) := by omega
    clear hl
    go_enter Tryz.func8, Tryz.ntmps8
    go_wp2
    go_ret3
    exact HQ.out
  · have HLi := Lib.hid (refList_any s w (by omega))
    have HA : Hid (ansOf s = match (lexA kindW 0 s.data.toList).2 with | some p => ([], 2, (p : Int)) | none => ((lexA kindW 0 s.data.toList).1, 0, 0)) := by
      show _ = _
      unfold ansOf
      first
        | (rw [if_neg hl]; done)
        | (rw [if_neg hl]; cases (lexA kindW 0 s.data.toList).2 <;> rfl)
    have hli : (s.size : Int) ≤ 4000 := by omega
    generalize lexA kindW 0 s.data.toList = R at HLi HA
    generalize ansOf s = a at HA ⊢
    clear hl
    go_enter Tryz.func8, Tryz.ntmps8
    go_wp2_with fail
    refine HLi.out.mono ?_
    rintro e w1 ⟨A, c, rfl, hr, hb⟩
    obtain ⟨L, o⟩ := R
    cases o with
    | some p =>
      have HQ : Hid (RaU w a (.returned (.tuple #[.slice none 0 0, .int .i64 (p : Int), .int .i64 2])) w1) := by
        show RaU _ _ _ _
        rw [HA.out]
        exact ⟨none, 0, rfl, row_nil _ _, hb⟩
      clear hr hb HLi
      simp only
      go_wp2
      go_ret3
      exact HQ.out
    | none =>
      have HQ : Hid (RaU w a (.returned (.tuple #[.slice A L.length c, .int .i64 0, .int .i64 0])) w1) := by
        show RaU _ _ _ _
        rw [HA.out]
        exact ⟨A, c, rfl, hr, hb⟩
      clear hr hb HLi
      simp only
      go_wp2
      go_ret3
      exact HQ.out

end Go.Proofs.YtolnikpihedmbaaGreatDoor
