/- What package value's Of, Symbol and Right give, and what corollaryref01.Right and Less, corollarynum.Num and Is give. Conditions: texts no longer than Go's longest. -/
import Derived.Test.YtbahmkhnnahddaaValName
namespace Go.Proofs.Ytbahmkhnnahddaa
open Go.RowKit

/-- an error of package api by its number, as an interface's value. -/
abbrev eno (n : Int) : Value := .iface 30 (.int .i64 n)
/-- the empty text. -/
abbrev noText : ByteArray := ⟨#[]⟩

theorem inRange_is (n : Int) (b : Bool) (h : inRng n = b) (w : World) : Calls Try.prog 78 #[.int .i64 n] w fun e w' => e = .returned (.bool b) ∧ w = w' := by
  subst h; exact inRange_any n w
theorem Name_is (s : ByteArray) (b : Bool) (h : isName s.data.toList = b) (hs : s.size ≤ maxLen) (w : World) : Calls Try.prog 79 #[.string s] w fun e w' => e = .returned (.bool b) ∧ w = w' := by
  subst h; exact Name_any s w hs
theorem refName_is (s : ByteArray) (b : Bool) (h : isName s.data.toList = b) (hs : s.size ≤ maxLen) (w : World) : Calls Try.prog 82 #[.string s] w fun e w' => e = .returned (.bool b) ∧ w = w' := by
  subst h; exact refName_any s w hs

theorem assert_eno (m : Int) (w : World) : (Instr.typeAssert (eno m) 26 30 true).run Try.prog w = .ok (.tuple #[.int .i64 m, .bool true]) w := by kernel_rfl
set_option maxRecDepth 100000 in
set_option maxHeartbeats 400000 in
theorem Is_eno (m n : Int) (w : World) (hm : (m != 0) = true) (b : Bool) (h : (m == n) = b) :
    Calls Try.prog 10 #[eno m, .int .i64 n] w fun e w' => e = .returned (.bool b) ∧ w = w' := by
  have hta := assert_eno m
  go_enter Try.func10, Try.ntmps10
  go_wp2
  go_ret
  exact ⟨rfl, rfl⟩
set_option maxRecDepth 100000 in
set_option maxHeartbeats 400000 in
theorem Is_nil (n : Int) (w : World) (b : Bool) (h : ((0 : Int) == n) = b) :
    Calls Try.prog 10 #[.nilIface, .int .i64 n] w fun e w' => e = .returned (.bool b) ∧ w = w' := by
  go_enter Try.func10, Try.ntmps10
  go_wp2
  go_ret
  exact ⟨rfl, rfl⟩

/-- 'is a right value', as a Bool. -/
def isRight (k n : Int) (s : ByteArray) : Bool := if k = 1 then s.data.toList.isEmpty && inRng n else if k = 2 then (n == 0) && isName s.data.toList else false

theorem empty_of {s : ByteArray} (h : s.size = 0) : s = noText := by
  have hz : s.size = s.data.toList.length := by simp
  have : s.data.toList = [] := List.eq_nil_of_length_eq_zero (by omega)
  cases s with
  | mk d => cases d with
    | mk l => simp at this; subst this; rfl
theorem empty_not {s : ByteArray} (h : ¬ s.size = 0) : s.data.toList.isEmpty = false ∧ s.toList.isEmpty = false := by
  have hz : s.size = s.data.toList.length := by simp
  have : s.data.toList.isEmpty = false := by
    cases hl : s.data.toList with
    | nil => rw [hl] at hz; exact absurd hz h
    | cons _ _ => rfl
  exact ⟨this, by rw [Lib.toList_data]; exact this⟩

set_option maxRecDepth 100000 in
set_option maxHeartbeats 1000000 in
theorem Right_any (k n : Int) (s : ByteArray) (w : World) (hs : s.size ≤ maxLen) :
    Calls Try.prog 65 #[vv k n s] w fun e w' => e = .returned (.bool (isRight k n s)) ∧ Below w.heap.size w w' := by
  by_cases h1 : k = 1
  · subst h1
    by_cases he : s.size = 0
    · obtain rfl := empty_of he
      clear he
      have HR := Lib.hid (show isRight 1 n noText = inRng n by simp [isRight])
      go_enter Try.func65, Try.ntmps65
      go_wp2_with (go_at_call 78; refine (inRange_any _ _).mono ?_; rintro e w' ⟨rfl, rfl⟩)
      go_ret
      exact ⟨ret_bool HR.out.symm, (Below.refl _ _).alloc (Nat.le_refl _) _⟩
    · obtain ⟨e1, e2⟩ := empty_not he
      have HR := Lib.hid (show isRight 1 n s = false by simp only [isRight, if_pos, e1, Bool.false_and])
      clear e1
      go_enter Try.func65, Try.ntmps65
      go_wp2
      go_ret
      exact ⟨ret_bool HR.out.symm, (Below.refl _ _).alloc (Nat.le_refl _) _⟩
  · by_cases h2 : k = 2
    · subst h2
      cases hn : (n == 0) with
      | true =>
        have HR := Lib.hid (show isRight 2 n s = isName s.data.toList by simp only [isRight, hn]; rfl)
        go_enter Try.func65, Try.ntmps65
        go_wp2_with (go_at_call 79; refine (Name_any _ _ hs).mono ?_; rintro e w' ⟨rfl, rfl⟩)
        go_ret
        exact ⟨ret_bool HR.out.symm, (Below.refl _ _).alloc (Nat.le_refl _) _⟩
      | false =>
        have HR := Lib.hid (show isRight 2 n s = false by simp only [isRight, hn]; rfl)
        go_enter Try.func65, Try.ntmps65
        go_wp2
        go_ret
        exact ⟨ret_bool HR.out.symm, (Below.refl _ _).alloc (Nat.le_refl _) _⟩
    · have HR := Lib.hid (show isRight k n s = false by simp only [isRight, h1, h2]; rfl)
      have b1 : (k == 1) = false := by simpa using h1
      have b2 : (k == 2) = false := by simpa using h2
      clear h1 h2
      go_enter Try.func65, Try.ntmps65
      go_wp2
      go_ret
      exact ⟨ret_bool HR.out.symm, (Below.refl _ _).alloc (Nat.le_refl _) _⟩

set_option maxRecDepth 100000 in
set_option maxHeartbeats 1000000 in
theorem refRight_any (k n : Int) (s : ByteArray) (w : World) (hs : s.size ≤ maxLen) :
    Calls Try.prog 69 #[vv k n s] w fun e w' => e = .returned (.bool (isRight k n s)) ∧ Below w.heap.size w w' := by
  by_cases h1 : k = 1
  · subst h1
    by_cases he : s.size = 0
    · obtain rfl := empty_of he
      clear he
      by_cases a1 : -2147483647 ≤ n
      · by_cases a2 : n ≤ 2147483647
        · have HR := Lib.hid (show isRight 1 n noText = true by simp [isRight, inRng, a1, a2])
          have d1 : decide (-2147483647 ≤ n) = true := by simpa using a1
          have d2 : decide (n ≤ 2147483647) = true := by simpa using a2
          go_enter Try.func69, Try.ntmps69
          go_wp2
          go_ret
          exact ⟨ret_bool HR.out.symm, (Below.refl _ _).alloc (Nat.le_refl _) _⟩
        · have HR := Lib.hid (show isRight 1 n noText = false by simp [isRight, inRng, a2])
          have d1 : decide (-2147483647 ≤ n) = true := by simpa using a1
          have d2 : decide (n ≤ 2147483647) = false := by simpa using a2
          go_enter Try.func69, Try.ntmps69
          go_wp2
          go_ret
          exact ⟨ret_bool HR.out.symm, (Below.refl _ _).alloc (Nat.le_refl _) _⟩
      · have HR := Lib.hid (show isRight 1 n noText = false by simp [isRight, inRng, a1])
        have d1 : decide (-2147483647 ≤ n) = false := by simpa using a1
        go_enter Try.func69, Try.ntmps69
        go_wp2
        go_ret
        exact ⟨ret_bool HR.out.symm, (Below.refl _ _).alloc (Nat.le_refl _) _⟩
    · obtain ⟨e1, _⟩ := empty_not he
      have HR := Lib.hid (show isRight 1 n s = false by simp only [isRight, if_pos, e1, Bool.false_and])
      have b0 : ((s.size : Int) == 0) = false := beq_eq_false_iff_ne.2 (by omega)
      clear e1 he
      go_enter Try.func69, Try.ntmps69
      go_wp2
      go_ret
      exact ⟨ret_bool HR.out.symm, (Below.refl _ _).alloc (Nat.le_refl _) _⟩
  · by_cases h2 : k = 2
    · subst h2
      cases hn : (n == 0) with
      | true =>
        have HR := Lib.hid (show isRight 2 n s = isName s.data.toList by simp only [isRight, hn]; rfl)
        go_enter Try.func69, Try.ntmps69
        go_wp2_with (go_at_call 82; refine (refName_any _ _ hs).mono ?_; rintro e w' ⟨rfl, rfl⟩)
        go_ret
        exact ⟨ret_bool HR.out.symm, (Below.refl _ _).alloc (Nat.le_refl _) _⟩
      | false =>
        have HR := Lib.hid (show isRight 2 n s = false by simp only [isRight, hn]; rfl)
        go_enter Try.func69, Try.ntmps69
        go_wp2
        go_ret
        exact ⟨ret_bool HR.out.symm, (Below.refl _ _).alloc (Nat.le_refl _) _⟩
    · have HR := Lib.hid (show isRight k n s = false by simp only [isRight, h1, h2]; rfl)
      have b1 : (k == 1) = false := by simpa using h1
      have b2 : (k == 2) = false := by simpa using h2
      clear h1 h2
      go_enter Try.func69, Try.ntmps69
      go_wp2
      go_ret
      exact ⟨ret_bool HR.out.symm, (Below.refl _ _).alloc (Nat.le_refl _) _⟩

/-- 'stands ahead', as a Bool. -/
def lessV (k n : Int) (s : ByteArray) (k' n' : Int) (s' : ByteArray) : Bool :=
  if (k != k') = true then decide (k < k') else if (n != n') = true then decide (n < n') else Op.bytesLess s.toList s'.toList

set_option maxRecDepth 100000 in
set_option maxHeartbeats 1000000 in
theorem Less_any (k n : Int) (s : ByteArray) (k' n' : Int) (s' : ByteArray) (w : World) :
    Calls Try.prog 77 #[vv k n s, vv k' n' s'] w fun e w' => e = .returned (.bool (lessV k n s k' n' s')) ∧ Below w.heap.size w w' := by
  cases h1 : (k != k') with
  | true =>
    have HR := Lib.hid (show lessV k n s k' n' s' = decide (k < k') by simp only [lessV, h1]; rfl)
    go_enter Try.func77, Try.ntmps77
    go_wp2
    go_ret
    exact ⟨ret_bool HR.out.symm, ((Below.refl _ _).alloc (Nat.le_refl _) _).alloc (by simp) _⟩
  | false =>
    cases h2 : (n != n') with
    | true =>
      have HR := Lib.hid (show lessV k n s k' n' s' = decide (n < n') by simp only [lessV, h1, h2]; rfl)
      go_enter Try.func77, Try.ntmps77
      go_wp2
      go_ret
      exact ⟨ret_bool HR.out.symm, ((Below.refl _ _).alloc (Nat.le_refl _) _).alloc (by simp) _⟩
    | false =>
      have HR := Lib.hid (show lessV k n s k' n' s' = Op.bytesLess s.toList s'.toList by simp only [lessV, h1, h2]; rfl)
      go_enter Try.func77, Try.ntmps77
      go_wp2
      go_ret
      exact ⟨ret_bool HR.out.symm, ((Below.refl _ _).alloc (Nat.le_refl _) _).alloc (by simp) _⟩

end Go.Proofs.Ytbahmkhnnahddaa
