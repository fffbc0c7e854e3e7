/- Comparing texts and values: cmp.Compare at strings, cmp.Or at three numbers, value.Compare, corollaryref01.Less. Conditions: none. -/
import Derived.Test.YtbahmkhnnahddaaValSmall
import Derived.StillTailTactics
import Derived.Lib.Hide
import Derived.Handy
namespace Go.Proofs.Ytbahmkhnnahddaa
open Go.RowKit

/-- three ways, of texts by their bytes. -/
def cmpS (a b : ByteArray) : Int := if Op.bytesLess a.toList b.toList then -1 else if (!a.toList == b.toList) = true then 1 else 0

set_option maxRecDepth 100000 in
set_option maxHeartbeats 400000 in
theorem cmpStr_any (a b : ByteArray) (w : World) :
    Calls Try.prog 87 #[.string a, .string b] w fun e w' => e = .returned (.int .i64 (cmpS a b)) ∧ w = w' := by
  by_cases h1 : Op.bytesLess a.toList b.toList = true
  · have e : cmpS a b = -1 := by simp only [cmpS, h1]; rfl
    rw [e]; clear e
    go_enter Try.func87, Try.ntmps87
    go_wp2
    go_ret
    exact ⟨rfl, rfl⟩
  · have h1 : Op.bytesLess a.toList b.toList = false := by simpa using h1
    by_cases h2 : (!a.toList == b.toList) = true
    · have e : cmpS a b = 1 := by simp only [cmpS, h1, h2]; rfl
      rw [e]; clear e
      go_enter Try.func87, Try.ntmps87
      go_wp2
      go_ret
      exact ⟨rfl, rfl⟩
    · have h2 : (!a.toList == b.toList) = false := by simpa using h2
      have e : cmpS a b = 0 := by simp only [cmpS, h1, h2]; rfl
      rw [e]; clear e
      go_enter Try.func87, Try.ntmps87
      go_wp2
      go_ret
      exact ⟨rfl, rfl⟩

/-- the first of three that is not 0. -/
def or3 (a b c : Int) : Int := if (a != 0) = true then a else if (b != 0) = true then b else c

set_option maxRecDepth 100000 in
set_option maxHeartbeats 400000 in
theorem Or3_any (a b c : Int) (w : World) (B : Nat)
    (h0 : w.cell? ⟨B, 0, none⟩ = some (.int .i64 a)) (h1 : w.cell? ⟨B, 1, none⟩ = some (.int .i64 b)) (h2 : w.cell? ⟨B, 2, none⟩ = some (.int .i64 c)) :
    Calls Try.prog 84 #[.slice (some ⟨B, 0, none⟩) 3 3] w fun e w' => e = .returned (.int .i64 (or3 a b c)) ∧ w = w' := by
  by_cases ha : (a != 0) = true
  · have e : or3 a b c = a := by simp only [or3, ha]; rfl
    rw [e]; clear e
    go_enter Try.func84, Try.ntmps84
    go_wp2
    go_rounds 4
    go_ret
    exact ⟨rfl, rfl⟩
  · have ha : (a != 0) = false := by simpa using ha
    by_cases hb : (b != 0) = true
    · have e : or3 a b c = b := by simp only [or3, ha, hb]; rfl
      rw [e]; clear e
      go_enter Try.func84, Try.ntmps84
      go_wp2
      go_rounds 4
      go_ret
      exact ⟨rfl, rfl⟩
    · have hb : (b != 0) = false := by simpa using hb
      have e : or3 a b c = c := by simp only [or3, ha, hb]; rfl
      rw [e]; clear e
      by_cases hc : (c != 0) = true
      · go_enter Try.func84, Try.ntmps84
        go_wp2
        go_rounds 4
        go_ret
        exact ⟨rfl, rfl⟩
      · have hc : c = 0 := by simpa using hc
        subst hc
        go_enter Try.func84, Try.ntmps84
        go_wp2
        go_rounds 4
        go_ret
        exact ⟨rfl, rfl⟩

/-- a value's order, as the document has it for arbitrary values. -/
def cmpV (k n : Int) (s : ByteArray) (k' n' : Int) (s' : ByteArray) : Int := or3 (cmpI k k') (cmpI n n') (cmpS s s')

theorem below_two (w : World) (o p : Obj) : Below w.heap.size w ((w.alloc o).alloc p).drew :=
  (((Below.refl _ _).alloc (Nat.le_refl _) _).alloc (by simp) _).drew

set_option maxRecDepth 100000 in
set_option maxHeartbeats 400000 in
theorem Compare_any (k n : Int) (s : ByteArray) (k' n' : Int) (s' : ByteArray) (w : World) :
    Calls Try.prog 72 #[vv k n s, vv k' n' s'] w fun e w' => e = .returned (.int .i64 (cmpV k n s k' n' s')) ∧ Below w.heap.size w w' := by
  have c1 : ∀ W : World, Calls Try.prog 85 #[.int .i64 k, .int .i64 k'] W fun e w' => e = .returned (.int .i64 (cmpI k k')) ∧ w' = W := fun W => (cmpKind_any k k' W).mono fun _ _ h => ⟨h.1, h.2.symm⟩
  have c2 : ∀ W : World, Calls Try.prog 86 #[.int .i64 n, .int .i64 n'] W fun e w' => e = .returned (.int .i64 (cmpI n n')) ∧ w' = W := fun W => (cmpInt_any n n' W).mono fun _ _ h => ⟨h.1, h.2.symm⟩
  have c3 : ∀ W : World, Calls Try.prog 87 #[.string s, .string s'] W fun e w' => e = .returned (.int .i64 (cmpS s s')) ∧ w' = W := fun W => (cmpStr_any s s' W).mono fun _ _ h => ⟨h.1, h.2.symm⟩
  have C1 := Lib.hid c1
  have C2 := Lib.hid c2
  have C3 := Lib.hid c3
  clear c1 c2 c3
  obtain ⟨wq, hwq⟩ : ∃ wq, wq = ((w.alloc (.cells #[.int .i64 k, .int .i64 n, .string s] 48)).alloc (.cells #[.int .i64 k', .int .i64 n', .string s'] 48)).drew := ⟨_, rfl⟩
  have a0 : wq.cell? ⟨w.heap.size, 0, none⟩ = some (.int .i64 k) := by rw [hwq]; go_simp
  have a1 : wq.cell? ⟨w.heap.size, 1, none⟩ = some (.int .i64 n) := by rw [hwq]; go_simp
  have a2 : wq.cell? ⟨w.heap.size, 2, none⟩ = some (.string s) := by rw [hwq]; go_simp
  have b0 : wq.cell? ⟨w.heap.size + 1, 0, none⟩ = some (.int .i64 k') := by rw [hwq]; go_simp
  have b1 : wq.cell? ⟨w.heap.size + 1, 1, none⟩ = some (.int .i64 n') := by rw [hwq]; go_simp
  have b2 : wq.cell? ⟨w.heap.size + 1, 2, none⟩ = some (.string s') := by rw [hwq]; go_simp
  have HB := below_two w (.cells #[.int .i64 k, .int .i64 n, .string s] 48) (.cells #[.int .i64 k', .int .i64 n', .string s'] 48)
  rw [← hwq] at HB
  have HW := Lib.hid hwq
  clear hwq
  go_enter Try.func72, Try.ntmps72
  go_wp2_with fail
  refine wp_region_still_tail 15 (by kernel_rfl) (by kernel_rfl) ?_
  simp only [List.take_succ_cons, List.take_zero, List.drop_succ_cons, List.drop_zero]
  change wpStill _ _ (World.drew _) _ _ _
  rw [← HW.out]
  repeat (first | still_step | still_call (C1.out _) | still_call (C2.out _) | still_call (C3.out _))
  refine wpStill_nil ?_
  change wpList _ _ _ _ _ (World.drew _)
  rw [← HW.out]
  clear a0 a1 a2 b0 b1 b2
  go_wp2_with (go_at_call 84; refine (Or3_any (cmpI k k') (cmpI n n') (cmpS s s') _ _ (by go_simp) (by go_simp) (by go_simp)).mono ?_; rintro e w' ⟨rfl, rfl⟩)
  go_ret
  exact ⟨rfl, HB.alloc HB.size _⟩

end Go.Proofs.Ytbahmkhnnahddaa
