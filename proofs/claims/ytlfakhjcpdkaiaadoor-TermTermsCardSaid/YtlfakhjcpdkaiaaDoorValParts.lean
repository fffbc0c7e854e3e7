/- What package value's Of, Symbol and Right give, and what corollaryref01.Right and Less, corollarynum.Num and Is give. Conditions: texts no longer than Go's longest. -/
import Derived.Test.YtlfakhjcpdkaiaaDoorValName
namespace Go.Proofs.YtlfakhjcpdkaiaaDoor
open Go.RowKit

/-- an error of package api by its number, as an interface's value. -/
abbrev eno (n : Int) : Value := .iface 110 (.int .i64 n)
/-- the empty text. -/
abbrev noText : ByteArray := ⟨#[]⟩

theorem inRange_is (n : Int) (b : Bool) (h : inRng n = b) (w : World) : Calls Tryd.prog 62 #[.int .i64 n] w fun e w' => e = .returned (.bool b) ∧ w = w' := by
  subst h; exact inRange_any n w
theorem Name_is (s : ByteArray) (b : Bool) (h : isName s.data.toList = b) (hs : s.size ≤ maxLen) (w : World) : Calls Tryd.prog 63 #[.string s] w fun e w' => e = .returned (.bool b) ∧ w = w' := by
  subst h; exact Name_any s w hs
theorem refName_is (s : ByteArray) (b : Bool) (h : isName s.data.toList = b) (hs : s.size ≤ maxLen) (w : World) : Calls Tryd.prog 70 #[.string s] w fun e w' => e = .returned (.bool b) ∧ w = w' := by
  subst h; exact refName_any s w hs

set_option maxHeartbeats 400000 in
theorem Of_ok (n : Int) (w : World) (h : inRng n = true) :
    Calls Tryd.prog 81 #[.int .i64 n] w fun e w' => e = .returned (.tuple #[vv 1 n noText, .nilIface]) ∧ Below w.heap.size w w' := by
  have H := Lib.hid h
  clear h
  go_enter Tryd.func81, Tryd.ntmps81
  go_wp2_with (go_at_call 62; refine (inRange_is _ _ H.out _).mono ?_; rintro e w' ⟨rfl, rfl⟩)
  refine bodyPost_ret (v := .tuple #[vv 1 n noText, .nilIface]) (by simp [results, Tryd.results81, go_sem]) rfl ⟨rfl, ?_⟩
  exact (Below.refl _ _).alloc (Nat.le_refl _) _
set_option maxHeartbeats 400000 in
theorem Of_no (n : Int) (w : World) (h : inRng n = false) :
    Calls Tryd.prog 81 #[.int .i64 n] w fun e w' => e = .returned (.tuple #[vv 0 0 noText, eno 10]) ∧ Below w.heap.size w w' := by
  have H := Lib.hid h
  clear h
  go_enter Tryd.func81, Tryd.ntmps81
  go_wp2_with (go_at_call 62; refine (inRange_is _ _ H.out _).mono ?_; rintro e w' ⟨rfl, rfl⟩)
  refine bodyPost_ret (v := .tuple #[vv 0 0 noText, eno 10]) (by simp [results, Tryd.results81, go_sem]) rfl ⟨rfl, ?_⟩
  exact (Below.refl _ _).alloc (Nat.le_refl _) _

set_option maxHeartbeats 400000 in
theorem Symbol_ok (s : ByteArray) (w : World) (hs : s.size ≤ maxLen) (h : isName s.data.toList = true) :
    Calls Tryd.prog 79 #[.string s] w fun e w' => e = .returned (.tuple #[vv 2 0 s, .nilIface]) ∧ Below w.heap.size w w' := by
  have H := Lib.hid h
  clear h
  go_enter Tryd.func79, Tryd.ntmps79
  go_wp2_with (go_at_call 63; refine (Name_is _ _ H.out hs _).mono ?_; rintro e w' ⟨rfl, rfl⟩)
  refine bodyPost_ret (v := .tuple #[vv 2 0 s, .nilIface]) (by simp [results, Tryd.results79, go_sem]) rfl ⟨rfl, ?_⟩
  exact (Below.refl _ _).alloc (Nat.le_refl _) _
set_option maxHeartbeats 400000 in
theorem Symbol_no (s : ByteArray) (w : World) (hs : s.size ≤ maxLen) (h : isName s.data.toList = false) :
    Calls Tryd.prog 79 #[.string s] w fun e w' => e = .returned (.tuple #[vv 0 0 noText, eno 5]) ∧ Below w.heap.size w w' := by
  have H := Lib.hid h
  clear h
  go_enter Tryd.func79, Tryd.ntmps79
  go_wp2_with (go_at_call 63; refine (Name_is _ _ H.out hs _).mono ?_; rintro e w' ⟨rfl, rfl⟩)
  refine bodyPost_ret (v := .tuple #[vv 0 0 noText, eno 5]) (by simp [results, Tryd.results79, go_sem]) rfl ⟨rfl, ?_⟩
  exact (Below.refl _ _).alloc (Nat.le_refl _) _

theorem assert_eno (m : Int) (w : World) : (Instr.typeAssert (eno m) 128 110 true).run Tryd.prog w = .ok (.tuple #[.int .i64 m, .bool true]) w := by kernel_rfl
/-- 'is a right value', as a Bool. -/
def isRight (k n : Int) (s : ByteArray) : Bool := if k = 1 then s.data.toList.isEmpty && inRng n else if k = 2 then (n == 0) && isName s.data.toList else false

theorem empty_of {s : ByteArray} (h : s.size = 0) : s = noText := by
  have hz : s.size = s.data.toList.length := by simp
  have : s.data.toList = [] := List.eq_nil_of_length_eq_zero (by omega)
  cases s with
  | mk d => cases d with
    | mk l => simp at this; subst this; rfl
theorem empty_not {s : ByteArray} (h : ¬ s.size = 0) : s.data.toList.isEmpty = false ∧ s.toList.isEmpty = false := by
  have hz : s.size = s.data.toList.length := by simp
  have : s.data.toList.isEmpty = false := by
    cases hl : s.data.toList with
    | nil => rw [hl] at hz; exact absurd hz h
    | cons _ _ => rfl
  exact ⟨this, by rw [Lib.toList_data]; exact this⟩

set_option maxHeartbeats 1000000 in
theorem Right_any (k n : Int) (s : ByteArray) (w : World) (hs : s.size ≤ maxLen) :
    Calls Tryd.prog 54 #[vv k n s] w fun e w' => e = .returned (.bool (isRight k n s)) ∧ Below w.heap.size w w' := by
  by_cases h1 : k = 1
  · subst h1
    by_cases he : s.size = 0
    · obtain rfl := empty_of he
      clear he
      have HR := Lib.hid (show isRight 1 n noText = inRng n by simp [isRight])
      go_enter Tryd.func54, Tryd.ntmps54
      go_wp2_with (go_at_call 62; refine (inRange_any _ _).mono ?_; rintro e w' ⟨rfl, rfl⟩)
      go_ret
      exact ⟨ret_bool HR.out.symm, (Below.refl _ _).alloc (Nat.le_refl _) _⟩
    · obtain ⟨e1, e2⟩ := empty_not he
      have HR := Lib.hid (show isRight 1 n s = false by simp only [isRight, if_pos, e1, Bool.false_and])
      clear e1
      go_enter Tryd.func54, Tryd.ntmps54
      go_wp2
      go_ret
      exact ⟨ret_bool HR.out.symm, (Below.refl _ _).alloc (Nat.le_refl _) _⟩
  · by_cases h2 : k = 2
    · subst h2
      cases hn : (n == 0) with
      | true =>
        have HR := Lib.hid (show isRight 2 n s = isName s.data.toList by simp only [isRight, hn]; rfl)
        go_enter Tryd.func54, Tryd.ntmps54
        go_wp2_with (go_at_call 63; refine (Name_any _ _ hs).mono ?_; rintro e w' ⟨rfl, rfl⟩)
        go_ret
        exact ⟨ret_bool HR.out.symm, (Below.refl _ _).alloc (Nat.le_refl _) _⟩
      | false =>
        have HR := Lib.hid (show isRight 2 n s = false by simp only [isRight, hn]; rfl)
        go_enter Tryd.func54, Tryd.ntmps54
        go_wp2
        go_ret
        exact ⟨ret_bool HR.out.symm, (Below.refl _ _).alloc (Nat.le_refl _) _⟩
    · have HR := Lib.hid (show isRight k n s = false by simp only [isRight, h1, h2]; rfl)
      have b1 : (k == 1) = false := by simpa using h1
      have b2 : (k == 2) = false := by simpa using h2
      clear h1 h2
      go_enter Tryd.func54, Tryd.ntmps54
      go_wp2
      go_ret
      exact ⟨ret_bool HR.out.symm, (Below.refl _ _).alloc (Nat.le_refl _) _⟩

/-- 'stands ahead', as a Bool. -/
def lessV (k n : Int) (s : ByteArray) (k' n' : Int) (s' : ByteArray) : Bool :=
  if (k != k') = true then decide (k < k') else if (n != n') = true then decide (n < n') else Op.bytesLess s.toList s'.toList

end Go.Proofs.YtlfakhjcpdkaiaaDoor
