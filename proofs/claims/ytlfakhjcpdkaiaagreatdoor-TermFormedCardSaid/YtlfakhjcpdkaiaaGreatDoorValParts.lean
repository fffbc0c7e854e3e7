/- What package value's Of, Symbol and Right give, and what corollaryref01.Right and Less, corollarynum.Num and Is give. Conditions: texts no longer than Go's longest. -/
import Derived.Test.YtlfakhjcpdkaiaaGreatDoorValName
namespace Go.Proofs.YtlfakhjcpdkaiaaGreatDoor
open Go.RowKit

/-- an error of package api by its number, as an interface's value. -/
abbrev eno (n : Int) : Value := .iface 142 (.int .i64 n)
/-- the empty text. -/
abbrev noText : ByteArray := ⟨#[]⟩

theorem inRange_is (n : Int) (b : Bool) (h : inRng n = b) (w : World) : Calls Tryz.prog 82 #[.int .i64 n] w fun e w' => e = .returned (.bool b) ∧ w = w' := by
  subst h; exact inRange_any n w
theorem Name_is (s : ByteArray) (b : Bool) (h : isName s.data.toList = b) (hs : s.size ≤ maxLen) (w : World) : Calls Tryz.prog 83 #[.string s] w fun e w' => e = .returned (.bool b) ∧ w = w' := by
  subst h; exact Name_any s w hs
theorem refName_is (s : ByteArray) (b : Bool) (h : isName s.data.toList = b) (hs : s.size ≤ maxLen) (w : World) : Calls Tryz.prog 91 #[.string s] w fun e w' => e = .returned (.bool b) ∧ w = w' := by
  subst h; exact refName_any s w hs

set_option maxHeartbeats 400000 in
theorem Of_ok (n : Int) (w : World) (h : inRng n = true) :
    Calls Tryz.prog 108 #[.int .i64 n] w fun e w' => e = .returned (.tuple #[vv 1 n noText, .nilIface]) ∧ Below w.heap.size w w' := by
  have H := Lib.hid h
  clear h
  go_enter Tryz.func108, Tryz.ntmps108
  go_wp2_with (go_at_call 82; refine (inRange_is _ _ H.out _).mono ?_; rintro e w' ⟨rfl, rfl⟩)
  refine bodyPost_ret (v := .tuple #[vv 1 n noText, .nilIface]) (by simp [results, Tryz.results108, go_sem]) rfl ⟨rfl, ?_⟩
  exact (Below.refl _ _).alloc (Nat.le_refl _) _
set_option maxHeartbeats 400000 in
theorem Of_no (n : Int) (w : World) (h : inRng n = false) :
    Calls Tryz.prog 108 #[.int .i64 n] w fun e w' => e = .returned (.tuple #[vv 0 0 noText, eno 10]) ∧ Below w.heap.size w w' := by
  have H := Lib.hid h
  clear h
  go_enter Tryz.func108, Tryz.ntmps108
  go_wp2_with (go_at_call 82; refine (inRange_is _ _ H.out _).mono ?_; rintro e w' ⟨rfl, rfl⟩)
  refine bodyPost_ret (v := .tuple #[vv 0 0 noText, eno 10]) (by simp [results, Tryz.results108, go_sem]) rfl ⟨rfl, ?_⟩
  exact (Below.refl _ _).alloc (Nat.le_refl _) _

set_option maxHeartbeats 400000 in
theorem Symbol_ok (s : ByteArray) (w : World) (hs : s.size ≤ maxLen) (h : isName s.data.toList = true) :
    Calls Tryz.prog 106 #[.string s] w fun e w' => e = .returned (.tuple #[vv 2 0 s, .nilIface]) ∧ Below w.heap.size w w' := by
  have H := Lib.hid h
  clear h
  go_enter Tryz.func106, Tryz.ntmps106
  go_wp2_with (go_at_call 83; refine (Name_is _ _ H.out hs _).mono ?_; rintro e w' ⟨rfl, rfl⟩)
  refine bodyPost_ret (v := .tuple #[vv 2 0 s, .nilIface]) (by simp [results, Tryz.results106, go_sem]) rfl ⟨rfl, ?_⟩
  exact (Below.refl _ _).alloc (Nat.le_refl _) _
set_option maxHeartbeats 400000 in
theorem Symbol_no (s : ByteArray) (w : World) (hs : s.size ≤ maxLen) (h : isName s.data.toList = false) :
    Calls Tryz.prog 106 #[.string s] w fun e w' => e = .returned (.tuple #[vv 0 0 noText, eno 5]) ∧ Below w.heap.size w w' := by
  have H := Lib.hid h
  clear h
  go_enter Tryz.func106, Tryz.ntmps106
  go_wp2_with (go_at_call 83; refine (Name_is _ _ H.out hs _).mono ?_; rintro e w' ⟨rfl, rfl⟩)
  refine bodyPost_ret (v := .tuple #[vv 0 0 noText, eno 5]) (by simp [results, Tryz.results106, go_sem]) rfl ⟨rfl, ?_⟩
  exact (Below.refl _ _).alloc (Nat.le_refl _) _

theorem assert_eno (m : Int) (w : World) : (Instr.typeAssert (eno m) 162 142 true).run Tryz.prog w = .ok (.tuple #[.int .i64 m, .bool true]) w := by kernel_rfl
/-- 'is a right value', as a Bool. -/
def isRight (k n : Int) (s : ByteArray) : Bool := if k = 1 then s.data.toList.isEmpty && inRng n else if k = 2 then (n == 0) && isName s.data.toList else false

theorem empty_of {s : ByteArray} (h : s.size = 0) : s = noText := by
  have hz : s.size = s.data.toList.length := by simp
  have : s.data.toList = [] := List.eq_nil_of_length_eq_zero (by omega)
  cases s with
  | mk d => cases d with
    | mk l => simp at this; subst this; rfl
theorem empty_not {s : ByteArray} (h : ¬ s.size = 0) : s.data.toList.isEmpty = false ∧ s.toList.isEmpty = false := by
  have hz : s.size = s.data.toList.length := by simp
  have : s.data.toList.isEmpty = false := by
    cases hl : s.data.toList with
    | nil => rw [hl] at hz; exact absurd hz h
    | cons _ _ => rfl
  exact ⟨this, by rw [Lib.toList_data]; exact this⟩

set_option maxHeartbeats 1000000 in
theorem Right_any (k n : Int) (s : ByteArray) (w : World) (hs : s.size ≤ maxLen) :
    Calls Tryz.prog 70 #[vv k n s] w fun e w' => e = .returned (.bool (isRight k n s)) ∧ Below w.heap.size w w' := by
  by_cases h1 : k = 1
  · subst h1
    by_cases he : s.size = 0
    · obtain rfl := empty_of he
      clear he
      have HR := Lib.hid (show isRight 1 n noText = inRng n by simp [isRight])
      go_enter Tryz.func70, Tryz.ntmps70
      go_wp2_with (go_at_call 82; refine (inRange_any _ _).mono ?_; rintro e w' ⟨rfl, rfl⟩)
      go_ret
      exact ⟨ret_bool HR.out.symm, (Below.refl _ _).alloc (Nat.le_refl _) _⟩
    · obtain ⟨e1, e2⟩ := empty_not he
      have HR := Lib.hid (show isRight 1 n s = false by simp only [isRight, if_pos, e1, Bool.false_and])
      clear e1
      go_enter Tryz.func70, Tryz.ntmps70
      go_wp2
      go_ret
      exact ⟨ret_bool HR.out.symm, (Below.refl _ _).alloc (Nat.le_refl _) _⟩
  · by_cases h2 : k = 2
    · subst h2
      cases hn : (n == 0) with
      | true =>
        have HR := Lib.hid (show isRight 2 n s = isName s.data.toList by simp only [isRight, hn]; rfl)
        go_enter Tryz.func70, Tryz.ntmps70
        go_wp2_with (go_at_call 83; refine (Name_any _ _ hs).mono ?_; rintro e w' ⟨rfl, rfl⟩)
        go_ret
        exact ⟨ret_bool HR.out.symm, (Below.refl _ _).alloc (Nat.le_refl _) _⟩
      | false =>
        have HR := Lib.hid (show isRight 2 n s = false by simp only [isRight, hn]; rfl)
        go_enter Tryz.func70, Tryz.ntmps70
        go_wp2
        go_ret
        exact ⟨ret_bool HR.out.symm, (Below.refl _ _).alloc (Nat.le_refl _) _⟩
    · have HR := Lib.hid (show isRight k n s = false by simp only [isRight, h1, h2]; rfl)
      have b1 : (k == 1) = false := by simpa using h1
      have b2 : (k == 2) = false := by simpa using h2
      clear h1 h2
      go_enter Tryz.func70, Tryz.ntmps70
      go_wp2
      go_ret
      exact ⟨ret_bool HR.out.symm, (Below.refl _ _).alloc (Nat.le_refl _) _⟩

set_option maxHeartbeats 1000000 in
theorem refRight_any (k n : Int) (s : ByteArray) (w : World) (hs : s.size ≤ maxLen) :
    Calls Tryz.prog 77 #[vv k n s] w fun e w' => e = .returned (.bool (isRight k n s)) ∧ Below w.heap.size w w' := by
  by_cases h1 : k = 1
  · subst h1
    by_cases he : s.size = 0
    · obtain rfl := empty_of he
      clear he
      by_cases a1 : -2147483647 ≤ n
      · by_cases a2 : n ≤ 2147483647
        · have HR := Lib.hid (show isRight 1 n noText = true by simp [isRight, inRng, a1, a2])
          have d1 : decide (-2147483647 ≤ n) = true := by simpa using a1
          have d2 : decide (n ≤ 2147483647) = true := by simpa using a2
          go_enter Tryz.func77, Tryz.ntmps77
          go_wp2
          go_ret
          exact ⟨ret_bool HR.out.symm, (Below.refl _ _).alloc (Nat.le_refl _) _⟩
        · have HR := Lib.hid (show isRight 1 n noText = false by simp [isRight, inRng, a2])
          have d1 : decide (-2147483647 ≤ n) = true := by simpa using a1
          have d2 : decide (n ≤ 2147483647) = false := by simpa using a2
          go_enter Tryz.func77, Tryz.ntmps77
          go_wp2
          go_ret
          exact ⟨ret_bool HR.out.symm, (Below.refl _ _).alloc (Nat.le_refl _) _⟩
      · have HR := Lib.hid (show isRight 1 n noText = false by simp [isRight, inRng, a1])
        have d1 : decide (-2147483647 ≤ n) = false := by simpa using a1
        go_enter Tryz.func77, Tryz.ntmps77
        go_wp2
        go_ret
        exact ⟨ret_bool HR.out.symm, (Below.refl _ _).alloc (Nat.le_refl _) _⟩
    · obtain ⟨e1, _⟩ := empty_not he
      have HR := Lib.hid (show isRight 1 n s = false by simp only [isRight, if_pos, e1, Bool.false_and])
      have b0 : ((s.size : Int) == 0) = false := beq_eq_false_iff_ne.2 (by omega)
      clear e1 he
      go_enter Tryz.func77, Tryz.ntmps77
      go_wp2
      go_ret
      exact ⟨ret_bool HR.out.symm, (Below.refl _ _).alloc (Nat.le_refl _) _⟩
  · by_cases h2 : k = 2
    · subst h2
      cases hn : (n == 0) with
      | true =>
        have HR := Lib.hid (show isRight 2 n s = isName s.data.toList by simp only [isRight, hn]; rfl)
        go_enter Tryz.func77, Tryz.ntmps77
        go_wp2_with (go_at_call 91; refine (refName_any _ _ hs).mono ?_; rintro e w' ⟨rfl, rfl⟩)
        go_ret
        exact ⟨ret_bool HR.out.symm, (Below.refl _ _).alloc (Nat.le_refl _) _⟩
      | false =>
        have HR := Lib.hid (show isRight 2 n s = false by simp only [isRight, hn]; rfl)
        go_enter Tryz.func77, Tryz.ntmps77
        go_wp2
        go_ret
        exact ⟨ret_bool HR.out.symm, (Below.refl _ _).alloc (Nat.le_refl _) _⟩
    · have HR := Lib.hid (show isRight k n s = false by simp only [isRight, h1, h2]; rfl)
      have b1 : (k == 1) = false := by simpa using h1
      have b2 : (k == 2) = false := by simpa using h2
      clear h1 h2
      go_enter Tryz.func77, Tryz.ntmps77
      go_wp2
      go_ret
      exact ⟨ret_bool HR.out.symm, (Below.refl _ _).alloc (Nat.le_refl _) _⟩

/-- 'stands ahead', as a Bool. -/
def lessV (k n : Int) (s : ByteArray) (k' n' : Int) (s' : ByteArray) : Bool :=
  if (k != k') = true then decide (k < k') else if (n != n') = true then decide (n < n') else Op.bytesLess s.toList s'.toList

end Go.Proofs.YtlfakhjcpdkaiaaGreatDoor
