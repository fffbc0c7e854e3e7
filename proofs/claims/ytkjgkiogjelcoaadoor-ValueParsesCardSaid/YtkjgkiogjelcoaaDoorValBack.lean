/- ValueBack's walk: the law's own steps, for every value. Conditions: the library's table and its two sentinel errors. -/
import Derived.Test.YtkjgkiogjelcoaaDoorValParse
namespace Go.Proofs.YtkjgkiogjelcoaaDoor
open Go.RowKit

theorem isLong_is (k n : Int) (s : ByteArray) (b : Bool) (h : isLong s = b) (w : World) :
    Calls Tryd.prog 8 #[vv k n s] w fun e w' => e = .returned (.bool b) ∧ Below w.heap.size w w' := by
  subst h; exact Long_any k n s w
theorem long_small {s : ByteArray} (h : isLong s = false) : s.size ≤ 500 := by
  simp [isLong] at h; omega
theorem right_two {k n : Int} {s : ByteArray} (hk : ¬ k = 1) (h : isRight k n s = true) : k = 2 ∧ n = 0 ∧ isName s.data.toList = true := by
  unfold isRight at h
  rw [if_neg hk] at h
  split at h
  · rename_i h2
    simp only [Bool.and_eq_true, beq_iff_eq] at h
    exact ⟨h2, h.1, h.2⟩
  · cases h
theorem text_sym {s : ByteArray} (h : isName s.data.toList = true) : textV 2 0 s = s := by
  have : isRight 2 0 s = true := by simp [isRight, h]
  simp only [textV, this]; rfl
theorem atoi_num {n : Int} (h : inRng n = true) : Lib.atoiAll (itoaB n).data.toList = .ok n := by
  obtain ⟨h1, h2⟩ := inRng_iff.1 h
  have hl := itoa_len h1 h2
  show Lib.atoiAll (Lib.itoa n) = _
  rw [Lib.atoiAll_short _ (by omega), atoi_itoa]; rfl
theorem itoaB_size {n : Int} (h : inRng n = true) : (itoaB n).size ≤ 11 := by
  obtain ⟨h1, h2⟩ := inRng_iff.1 h
  have hl := itoa_len h1 h2
  show (Lib.itoa n).toArray.size ≤ 11
  simpa using hl

set_option maxHeartbeats 1000000 in
theorem back_long (k n : Int) (s : ByteArray) (w : World) (hT : Tabs w) (hl : isLong s = true) :
    Calls Tryd.prog 6 #[vv k n s] w fun e w' => e = .returned (.bool true) ∧ Below w.heap.size w w' := by
  have HL := Lib.hid hl
  clear hl
  have HT := Lib.hid hT
  clear hT
  have n0 : ∀ (w : World) o, Below w.heap.size w (w.alloc o) := fun w o => (Below.refl _ _).alloc (Nat.le_refl _) o
  have x0 := Box.new w k n s
  have B0 := (Below.refl w.heap.size w).alloc (o := .cells #[.int .i64 k, .int .i64 n, .string s] 24) (Nat.le_refl _)
  go_enter Tryd.func6, Tryd.ntmps6
  go_wp2_with fail
  refine (alive_any _ (HT.out.1.below B0)).mono ?_
  rintro e w1 ⟨rfl, b1⟩
  have x1 := x0.below b1
  have B1 := B0.trans (b1.mono B0.size)
  clear x0 B0
  obtain ⟨p0, p1, p2, p3⟩ := id x1
  go_wp2_with fail
  refine (isLong_is _ _ _ _ HL.out _).mono ?_
  rintro e w2 ⟨rfl, b2⟩
  have x2 := x1.below b2
  have B2 := B1.trans (b2.mono B1.size)
  clear x1 B1 p0 p1 p2 p3
  go_wp2
  go_ret
  exact ⟨rfl, B2⟩

set_option maxHeartbeats 1000000 in
theorem back_wrong (k n : Int) (s : ByteArray) (w : World) (hT : Tabs w) (hl : isLong s = false) (hs : s.size ≤ maxLen) (hr : isRight k n s = false) :
    Calls Tryd.prog 6 #[vv k n s] w fun e w' => e = .returned (.bool true) ∧ Below w.heap.size w w' := by
  have HL := Lib.hid hl
  clear hl
  have HR := Lib.hid hr
  clear hr
  have HT := Lib.hid hT
  clear hT
  have n0 : ∀ (w : World) o, Below w.heap.size w (w.alloc o) := fun w o => (Below.refl _ _).alloc (Nat.le_refl _) o
  have x0 := Box.new w k n s
  have B0 := (Below.refl w.heap.size w).alloc (o := .cells #[.int .i64 k, .int .i64 n, .string s] 24) (Nat.le_refl _)
  go_enter Tryd.func6, Tryd.ntmps6
  go_wp2_with fail
  refine (alive_any _ (HT.out.1.below B0)).mono ?_
  rintro e w1 ⟨rfl, b1⟩
  have x1 := x0.below b1
  have B1 := B0.trans (b1.mono B0.size)
  clear x0 B0
  obtain ⟨p0, p1, p2, p3⟩ := id x1
  go_wp2_with fail
  refine (isLong_is _ _ _ _ HL.out _).mono ?_
  rintro e w2 ⟨rfl, b2⟩
  have x2 := x1.below b2
  have B2 := B1.trans (b2.mono B1.size)
  clear x1 B1 p0 p1 p2 p3
  obtain ⟨p0, p1, p2, p3⟩ := id x2
  go_wp2_with fail
  refine (Right_is _ _ _ _ HR.out hs _).mono ?_
  rintro e w3 ⟨rfl, b3⟩
  have x3 := x2.below b3
  have B3 := B2.trans (b3.mono B2.size)
  clear x2 B2 p0 p1 p2 p3
  go_wp2
  go_ret
  exact ⟨rfl, B3⟩

set_option maxHeartbeats 1000000 in
theorem back_num (n : Int) (w : World) (hT : Tabs w) (hl : isLong noText = false) (hs : noText.size ≤ maxLen) (hr : isRight 1 n noText = true) (hx : textV 1 n noText = itoaB n) (hm : isName (itoaB n).data.toList = false) (ha : Lib.atoiAll (itoaB n).data.toList = .ok n) (hn : inRng n = true) (hz : (itoaB n).size ≤ 11) :
    Calls Tryd.prog 6 #[vv 1 n noText] w fun e w' => e = .returned (.bool true) ∧ Below w.heap.size w w' := by
  have HL := Lib.hid hl
  clear hl
  have HR := Lib.hid hr
  clear hr
  have HX := Lib.hid hx
  clear hx
  have HM := Lib.hid hm
  clear hm
  have HA := Lib.hid ha
  clear ha
  have HN := Lib.hid hn
  clear hn
  have HT := Lib.hid hT
  clear hT
  have n0 : ∀ (w : World) o, Below w.heap.size w (w.alloc o) := fun w o => (Below.refl _ _).alloc (Nat.le_refl _) o
  have x0 := Box.new w 1 n noText
  have B0 := (Below.refl w.heap.size w).alloc (o := .cells #[.int .i64 1, .int .i64 n, .string noText] 24) (Nat.le_refl _)
  go_enter Tryd.func6, Tryd.ntmps6
  go_wp2_with fail
  refine (alive_any _ (HT.out.1.below B0)).mono ?_
  rintro e w1 ⟨rfl, b1⟩
  have x1 := x0.below b1
  have B1 := B0.trans (b1.mono B0.size)
  clear x0 B0
  obtain ⟨p0, p1, p2, p3⟩ := id x1
  go_wp2_with fail
  refine (isLong_is _ _ _ _ HL.out _).mono ?_
  rintro e w2 ⟨rfl, b2⟩
  have x2 := x1.below b2
  have B2 := B1.trans (b2.mono B1.size)
  clear x1 B1 p0 p1 p2 p3
  obtain ⟨p0, p1, p2, p3⟩ := id x2
  go_wp2_with fail
  refine (Right_is _ _ _ _ HR.out hs _).mono ?_
  rintro e w3 ⟨rfl, b3⟩
  have x3 := x2.below b3
  have B3 := B2.trans (b3.mono B2.size)
  clear x2 B2 p0 p1 p2 p3
  obtain ⟨p0, p1, p2, p3⟩ := id x3
  go_wp2_with fail
  refine (Text_is _ _ _ _ HX.out hs _ (HT.out.1.below B3)).mono ?_
  rintro e w4 ⟨rfl, b4⟩
  have x4 := x3.below b4
  have B4 := B3.trans (b4.mono B3.size)
  clear x3 B3 p0 p1 p2 p3
  go_wp2_with fail
  refine (Parse_num (itoaB n) _ (Nat.le_trans hz (by decide)) (Nat.le_trans hz (by decide)) HM.out n HA.out HN.out rfl (HT.out.1.below B4)).mono ?_
  rintro e w5 ⟨rfl, b5⟩
  obtain ⟨p0, p1, p2, p3⟩ := x4.below b5
  have B5 := B4.trans (b5.mono B4.size)
  clear x4
  go_wp2
  go_ret
  exact ⟨rfl, B5.alloc B5.size _⟩

set_option maxHeartbeats 1000000 in
theorem back_sym (s : ByteArray) (w : World) (hT : Tabs w) (hl : isLong s = false) (hs : s.size ≤ maxLen) (hr : isRight 2 0 s = true) (hx : textV 2 0 s = s) (hm : isName s.data.toList = true) :
    Calls Tryd.prog 6 #[vv 2 0 s] w fun e w' => e = .returned (.bool true) ∧ Below w.heap.size w w' := by
  have HL := Lib.hid hl
  clear hl
  have HR := Lib.hid hr
  clear hr
  have HX := Lib.hid hx
  clear hx
  have HM := Lib.hid hm
  clear hm
  have HT := Lib.hid hT
  clear hT
  have n0 : ∀ (w : World) o, Below w.heap.size w (w.alloc o) := fun w o => (Below.refl _ _).alloc (Nat.le_refl _) o
  have x0 := Box.new w 2 0 s
  have B0 := (Below.refl w.heap.size w).alloc (o := .cells #[.int .i64 2, .int .i64 0, .string s] 24) (Nat.le_refl _)
  go_enter Tryd.func6, Tryd.ntmps6
  go_wp2_with fail
  refine (alive_any _ (HT.out.1.below B0)).mono ?_
  rintro e w1 ⟨rfl, b1⟩
  have x1 := x0.below b1
  have B1 := B0.trans (b1.mono B0.size)
  clear x0 B0
  obtain ⟨p0, p1, p2, p3⟩ := id x1
  go_wp2_with fail
  refine (isLong_is _ _ _ _ HL.out _).mono ?_
  rintro e w2 ⟨rfl, b2⟩
  have x2 := x1.below b2
  have B2 := B1.trans (b2.mono B1.size)
  clear x1 B1 p0 p1 p2 p3
  obtain ⟨p0, p1, p2, p3⟩ := id x2
  go_wp2_with fail
  refine (Right_is _ _ _ _ HR.out hs _).mono ?_
  rintro e w3 ⟨rfl, b3⟩
  have x3 := x2.below b3
  have B3 := B2.trans (b3.mono B2.size)
  clear x2 B2 p0 p1 p2 p3
  obtain ⟨p0, p1, p2, p3⟩ := id x3
  go_wp2_with fail
  refine (Text_is _ _ _ _ HX.out hs _ (HT.out.1.below B3)).mono ?_
  rintro e w4 ⟨rfl, b4⟩
  have x4 := x3.below b4
  have B4 := B3.trans (b4.mono B3.size)
  clear x3 B3 p0 p1 p2 p3
  go_wp2_with fail
  refine (Parse_name s _ hs HM.out).mono ?_
  rintro e w5 ⟨rfl, b5⟩
  obtain ⟨p0, p1, p2, p3⟩ := x4.below b5
  have B5 := B4.trans (b5.mono B4.size)
  clear x4
  go_wp2
  go_ret
  exact ⟨rfl, B5.alloc B5.size _⟩

theorem back_walk (k n : Int) (s : ByteArray) (w : World) (hT : Tabs w) (hs : s.size ≤ maxLen) :
    Calls Tryd.prog 6 #[vv k n s] w fun e w' => e = .returned (.bool true) ∧ Below w.heap.size w w' := by
  cases hl : isLong s with
  | true => exact back_long k n s w hT hl
  | false =>
  cases hr : isRight k n s with
  | false => exact back_wrong k n s w hT hl hs hr
  | true =>
  by_cases hk : k = 1
  · subst hk
    obtain ⟨hn, rfl⟩ := right_one hr
    exact back_num n w hT hl hs hr (text_num hn) (itoa_noname n) (atoi_num hn) hn (itoaB_size hn)
  · obtain ⟨rfl, rfl, hm⟩ := right_two hk hr
    exact back_sym s w hT hl hs hr (text_sym hm) hm

end Go.Proofs.YtkjgkiogjelcoaaDoor
