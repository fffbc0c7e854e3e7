/- ValueTexts' walk, for numbers out of range. Conditions: the library's table. -/
import Derived.Test.YtkjgkiogjelcoaaDoorValTexts
namespace Go.Proofs.YtkjgkiogjelcoaaDoor
open Go.RowKit

set_option maxHeartbeats 2000000 in
set_option maxRecDepth 100000 in
theorem texts_lo_name (k n : Int) (s : ByteArray) (w : World) (hT : Tab w) (hs : s.size ≤ maxLen) (hl : isLong s = false) (hm : isName s.data.toList = true) (hn : inRng n = false) (d1 : decide (-2147483647 ≤ n) = false) :
    Calls Tryd.prog 3 #[vv k n s] w fun e w' => e = .returned (.bool true) ∧ Below w.heap.size w w' := by
  have HT := Lib.hid hT
  clear hT
  have HL := Lib.hid hl
  clear hl
  have HM := Lib.hid hm
  clear hm
  have HN := Lib.hid hn
  clear hn
  have st0 := St1.new w k n s
  go_enter Tryd.func3, Tryd.ntmps3
  go_wp2_with fail
  refine (alive_any _ (HT.out.below st0.2)).mono ?_
  rintro e w1 ⟨rfl, b1⟩
  have st1 := st0.step b1
  clear st0
  obtain ⟨⟨p0, p1, p2, p3⟩, B1⟩ := id st1
  go_wp2_with fail
  refine (Long_is1 _ _ _ _ HL.out _).mono ?_
  rintro e w2 ⟨rfl, b2⟩
  have st2 := st1.step b2
  clear st1 p0 p1 p2 p3 B1
  obtain ⟨⟨p0, p1, p2, p3⟩, B2⟩ := id st2
  go_wp2_with fail
  refine (Of_no _ _ HN.out).mono ?_
  rintro e w3 ⟨rfl, b3⟩
  have st3 := st2.step b3
  clear st2 p0 p1 p2 p3 B2
  have xa3 := Box.new w3 0 0 noText
  have st3' := st3.alloc (.cells #[.int .i64 0, .int .i64 0, .string noText] 24)
  obtain ⟨⟨p0, p1, p2, p3⟩, B3⟩ := id st3
  go_wp2_with fail
  refine (Symbol_ok _ _ hs HM.out).mono ?_
  rintro e w4 ⟨rfl, b4⟩
  have st4 := st3'.step b4
  have xa4 := xa3.below b4
  have xb4 := Box.new w4 2 0 s
  have n4 : Below w4.heap.size w4 (w4.alloc (.cells #[.int .i64 2, .int .i64 0, .string s] 24)) := (Below.refl _ _).alloc (Nat.le_refl _) _
  clear st3 st3' p0 p1 p2 p3 B3 xa3
  obtain ⟨⟨p0, p1, p2, p3⟩, B4⟩ := id st4
  obtain ⟨q0, q1, q2, q3⟩ := id xa4
  go_wp2_with fail
  go_quiet ((go_at_call 11; exact qcall (fun W => Is_eno 10 10 W rfl true rfl) _))
  have st5 := (st4.step n4).step (below_drewN (Below.refl _ _) nq)
  have xb5 := xb4.below (below_drewN (Below.refl _ _) nq)
  obtain ⟨w5, hw5⟩ : ∃ w5, w5 = (w4.alloc (.cells #[.int .i64 2, .int .i64 0, .string s] 24)).drewN nq := ⟨_, rfl⟩
  rw [← hw5] at st5 xb5
  clear p0 p1 p2 p3 q0 q1 q2 q3 B4 st4 xa4 xb4 n4
  obtain ⟨⟨p0, p1, p2, p3⟩, B5⟩ := id st5
  obtain ⟨q0, q1, q2, q3⟩ := id xb5
  go_wp2_with fail
  rw [← hw5]
  clear hw5
  go_quiet ((go_at_call 12; exact qcall (fun W => refName_is _ _ HM.out hs W) _))
  have st6 := st5.step (below_drewN (Below.refl _ _) nq)
  obtain ⟨w6, hw6⟩ : ∃ w6, w6 = w5.drewN nq := ⟨_, rfl⟩
  rw [← hw6] at st6
  clear p0 p1 p2 p3 q0 q1 q2 q3 B5 st5 xb5
  obtain ⟨⟨p0, p1, p2, p3⟩, B6⟩ := id st6
  go_wp2_with fail
  rw [← hw6]
  clear hw6
  go_region_held3 (fun w' => w'.cell? ⟨w.heap.size, 0, none⟩ = some (.int .i64 k) ∧ w'.cell? ⟨w.heap.size, 1, none⟩ = some (.int .i64 n) ∧ w'.cell? ⟨w.heap.size, 2, none⟩ = some (.string s) ∧ w.heap.size < w'.heap.size ∧ Below w.heap.size w w')
    (first | exact (st6.step (Below.refl _ _).drew).flat | exact flat_step (by assumption) hb | go_keep)
    (first
      | (go_at_call 13; refine (Name_is _ _ HM.out hs _).mono ?_; rintro e w' ⟨rfl, rfl⟩)
      | (go_at_call 12; refine (refName_is _ _ HM.out hs _).mono ?_; rintro e w' ⟨rfl, rfl⟩)
      | (go_at_call 14; refine (Right_any _ _ _ _ hs).mono ?_; rintro e w' ⟨rfl, hb⟩)
      | (go_at_call 15; refine (refRight_any _ _ _ _ hs).mono ?_; rintro e w' ⟨rfl, hb⟩)
      | (go_at_call 16; refine (Text_any _ _ _ _ hs ?_).mono ?_; (exact tab_flat HT.out (by assumption)); rintro e w' ⟨rfl, hb⟩)
      | (go_at_call 17; refine (refText_any _ _ _ _ hs).mono ?_; rintro e w' ⟨rfl, hb⟩)
      | (go_at_call 18; refine (Hash_any _ _ _ _ hs ?_).mono ?_; (exact tab_flat HT.out (by assumption)); rintro e w' ⟨rfl, hb⟩)
      | (go_at_call 19; refine (refHash_any _ _ _ _ hs).mono ?_; rintro e w' ⟨rfl, hb⟩))
  go_wp2
  go_ret
  exact ⟨ret_bool (by simp), flat_below (by assumption)⟩

set_option maxHeartbeats 2000000 in
set_option maxRecDepth 100000 in
theorem texts_lo_none (k n : Int) (s : ByteArray) (w : World) (hT : Tab w) (hs : s.size ≤ maxLen) (hl : isLong s = false) (hm : isName s.data.toList = false) (hn : inRng n = false) (d1 : decide (-2147483647 ≤ n) = false) :
    Calls Tryd.prog 3 #[vv k n s] w fun e w' => e = .returned (.bool true) ∧ Below w.heap.size w w' := by
  have HT := Lib.hid hT
  clear hT
  have HL := Lib.hid hl
  clear hl
  have HM := Lib.hid hm
  clear hm
  have HN := Lib.hid hn
  clear hn
  have st0 := St1.new w k n s
  go_enter Tryd.func3, Tryd.ntmps3
  go_wp2_with fail
  refine (alive_any _ (HT.out.below st0.2)).mono ?_
  rintro e w1 ⟨rfl, b1⟩
  have st1 := st0.step b1
  clear st0
  obtain ⟨⟨p0, p1, p2, p3⟩, B1⟩ := id st1
  go_wp2_with fail
  refine (Long_is1 _ _ _ _ HL.out _).mono ?_
  rintro e w2 ⟨rfl, b2⟩
  have st2 := st1.step b2
  clear st1 p0 p1 p2 p3 B1
  obtain ⟨⟨p0, p1, p2, p3⟩, B2⟩ := id st2
  go_wp2_with fail
  refine (Of_no _ _ HN.out).mono ?_
  rintro e w3 ⟨rfl, b3⟩
  have st3 := st2.step b3
  clear st2 p0 p1 p2 p3 B2
  have xa3 := Box.new w3 0 0 noText
  have st3' := st3.alloc (.cells #[.int .i64 0, .int .i64 0, .string noText] 24)
  obtain ⟨⟨p0, p1, p2, p3⟩, B3⟩ := id st3
  go_wp2_with fail
  refine (Symbol_no _ _ hs HM.out).mono ?_
  rintro e w4 ⟨rfl, b4⟩
  have st4 := st3'.step b4
  have xa4 := xa3.below b4
  have xb4 := Box.new w4 0 0 noText
  have n4 : Below w4.heap.size w4 (w4.alloc (.cells #[.int .i64 0, .int .i64 0, .string noText] 24)) := (Below.refl _ _).alloc (Nat.le_refl _) _
  clear st3 st3' p0 p1 p2 p3 B3 xa3
  obtain ⟨⟨p0, p1, p2, p3⟩, B4⟩ := id st4
  obtain ⟨q0, q1, q2, q3⟩ := id xa4
  go_wp2_with fail
  go_quiet ((go_at_call 11; exact qcall (fun W => Is_eno 10 10 W rfl true rfl) _))
  have st5 := (st4.step n4).step (below_drewN (Below.refl _ _) nq)
  have xb5 := xb4.below (below_drewN (Below.refl _ _) nq)
  obtain ⟨w5, hw5⟩ : ∃ w5, w5 = (w4.alloc (.cells #[.int .i64 0, .int .i64 0, .string noText] 24)).drewN nq := ⟨_, rfl⟩
  rw [← hw5] at st5 xb5
  clear p0 p1 p2 p3 q0 q1 q2 q3 B4 st4 xa4 xb4 n4
  obtain ⟨⟨p0, p1, p2, p3⟩, B5⟩ := id st5
  obtain ⟨q0, q1, q2, q3⟩ := id xb5
  go_wp2_with fail
  rw [← hw5]
  clear hw5
  go_quiet ((first | (go_at_call 12; exact qcall (fun W => refName_is _ _ HM.out hs W) _) | (go_at_call 11; exact qcall (fun W => Is_eno 5 5 W rfl true rfl) _)))
  have st6 := st5.step (below_drewN (Below.refl _ _) nq)
  obtain ⟨w6, hw6⟩ : ∃ w6, w6 = w5.drewN nq := ⟨_, rfl⟩
  rw [← hw6] at st6
  clear p0 p1 p2 p3 q0 q1 q2 q3 B5 st5 xb5
  obtain ⟨⟨p0, p1, p2, p3⟩, B6⟩ := id st6
  go_wp2_with fail
  rw [← hw6]
  clear hw6
  go_region_held3 (fun w' => w'.cell? ⟨w.heap.size, 0, none⟩ = some (.int .i64 k) ∧ w'.cell? ⟨w.heap.size, 1, none⟩ = some (.int .i64 n) ∧ w'.cell? ⟨w.heap.size, 2, none⟩ = some (.string s) ∧ w.heap.size < w'.heap.size ∧ Below w.heap.size w w')
    (first | exact (st6.step (Below.refl _ _).drew).flat | exact flat_step (by assumption) hb | go_keep)
    (first
      | (go_at_call 13; refine (Name_is _ _ HM.out hs _).mono ?_; rintro e w' ⟨rfl, rfl⟩)
      | (go_at_call 12; refine (refName_is _ _ HM.out hs _).mono ?_; rintro e w' ⟨rfl, rfl⟩)
      | (go_at_call 14; refine (Right_any _ _ _ _ hs).mono ?_; rintro e w' ⟨rfl, hb⟩)
      | (go_at_call 15; refine (refRight_any _ _ _ _ hs).mono ?_; rintro e w' ⟨rfl, hb⟩)
      | (go_at_call 16; refine (Text_any _ _ _ _ hs ?_).mono ?_; (exact tab_flat HT.out (by assumption)); rintro e w' ⟨rfl, hb⟩)
      | (go_at_call 17; refine (refText_any _ _ _ _ hs).mono ?_; rintro e w' ⟨rfl, hb⟩)
      | (go_at_call 18; refine (Hash_any _ _ _ _ hs ?_).mono ?_; (exact tab_flat HT.out (by assumption)); rintro e w' ⟨rfl, hb⟩)
      | (go_at_call 19; refine (refHash_any _ _ _ _ hs).mono ?_; rintro e w' ⟨rfl, hb⟩))
  go_wp2
  go_ret
  exact ⟨ret_bool (by simp), flat_below (by assumption)⟩

set_option maxHeartbeats 2000000 in
set_option maxRecDepth 100000 in
theorem texts_hi_name (k n : Int) (s : ByteArray) (w : World) (hT : Tab w) (hs : s.size ≤ maxLen) (hl : isLong s = false) (hm : isName s.data.toList = true) (hn : inRng n = false) (d1 : decide (-2147483647 ≤ n) = true) (d2 : decide (n ≤ 2147483647) = false) :
    Calls Tryd.prog 3 #[vv k n s] w fun e w' => e = .returned (.bool true) ∧ Below w.heap.size w w' := by
  have HT := Lib.hid hT
  clear hT
  have HL := Lib.hid hl
  clear hl
  have HM := Lib.hid hm
  clear hm
  have HN := Lib.hid hn
  clear hn
  have st0 := St1.new w k n s
  go_enter Tryd.func3, Tryd.ntmps3
  go_wp2_with fail
  refine (alive_any _ (HT.out.below st0.2)).mono ?_
  rintro e w1 ⟨rfl, b1⟩
  have st1 := st0.step b1
  clear st0
  obtain ⟨⟨p0, p1, p2, p3⟩, B1⟩ := id st1
  go_wp2_with fail
  refine (Long_is1 _ _ _ _ HL.out _).mono ?_
  rintro e w2 ⟨rfl, b2⟩
  have st2 := st1.step b2
  clear st1 p0 p1 p2 p3 B1
  obtain ⟨⟨p0, p1, p2, p3⟩, B2⟩ := id st2
  go_wp2_with fail
  refine (Of_no _ _ HN.out).mono ?_
  rintro e w3 ⟨rfl, b3⟩
  have st3 := st2.step b3
  clear st2 p0 p1 p2 p3 B2
  have xa3 := Box.new w3 0 0 noText
  have st3' := st3.alloc (.cells #[.int .i64 0, .int .i64 0, .string noText] 24)
  obtain ⟨⟨p0, p1, p2, p3⟩, B3⟩ := id st3
  go_wp2_with fail
  refine (Symbol_ok _ _ hs HM.out).mono ?_
  rintro e w4 ⟨rfl, b4⟩
  have st4 := st3'.step b4
  have xa4 := xa3.below b4
  have xb4 := Box.new w4 2 0 s
  have n4 : Below w4.heap.size w4 (w4.alloc (.cells #[.int .i64 2, .int .i64 0, .string s] 24)) := (Below.refl _ _).alloc (Nat.le_refl _) _
  clear st3 st3' p0 p1 p2 p3 B3 xa3
  obtain ⟨⟨p0, p1, p2, p3⟩, B4⟩ := id st4
  obtain ⟨q0, q1, q2, q3⟩ := id xa4
  go_wp2_with fail
  go_quiet ((go_at_call 11; exact qcall (fun W => Is_eno 10 10 W rfl true rfl) _))
  have st5 := (st4.step n4).step (below_drewN (Below.refl _ _) nq)
  have xb5 := xb4.below (below_drewN (Below.refl _ _) nq)
  obtain ⟨w5, hw5⟩ : ∃ w5, w5 = (w4.alloc (.cells #[.int .i64 2, .int .i64 0, .string s] 24)).drewN nq := ⟨_, rfl⟩
  rw [← hw5] at st5 xb5
  clear p0 p1 p2 p3 q0 q1 q2 q3 B4 st4 xa4 xb4 n4
  obtain ⟨⟨p0, p1, p2, p3⟩, B5⟩ := id st5
  obtain ⟨q0, q1, q2, q3⟩ := id xb5
  go_wp2_with fail
  rw [← hw5]
  clear hw5
  go_quiet ((go_at_call 12; exact qcall (fun W => refName_is _ _ HM.out hs W) _))
  have st6 := st5.step (below_drewN (Below.refl _ _) nq)
  obtain ⟨w6, hw6⟩ : ∃ w6, w6 = w5.drewN nq := ⟨_, rfl⟩
  rw [← hw6] at st6
  clear p0 p1 p2 p3 q0 q1 q2 q3 B5 st5 xb5
  obtain ⟨⟨p0, p1, p2, p3⟩, B6⟩ := id st6
  go_wp2_with fail
  rw [← hw6]
  clear hw6
  go_region_held3 (fun w' => w'.cell? ⟨w.heap.size, 0, none⟩ = some (.int .i64 k) ∧ w'.cell? ⟨w.heap.size, 1, none⟩ = some (.int .i64 n) ∧ w'.cell? ⟨w.heap.size, 2, none⟩ = some (.string s) ∧ w.heap.size < w'.heap.size ∧ Below w.heap.size w w')
    (first | exact (st6.step (Below.refl _ _).drew).flat | exact flat_step (by assumption) hb | go_keep)
    (first
      | (go_at_call 13; refine (Name_is _ _ HM.out hs _).mono ?_; rintro e w' ⟨rfl, rfl⟩)
      | (go_at_call 12; refine (refName_is _ _ HM.out hs _).mono ?_; rintro e w' ⟨rfl, rfl⟩)
      | (go_at_call 14; refine (Right_any _ _ _ _ hs).mono ?_; rintro e w' ⟨rfl, hb⟩)
      | (go_at_call 15; refine (refRight_any _ _ _ _ hs).mono ?_; rintro e w' ⟨rfl, hb⟩)
      | (go_at_call 16; refine (Text_any _ _ _ _ hs ?_).mono ?_; (exact tab_flat HT.out (by assumption)); rintro e w' ⟨rfl, hb⟩)
      | (go_at_call 17; refine (refText_any _ _ _ _ hs).mono ?_; rintro e w' ⟨rfl, hb⟩)
      | (go_at_call 18; refine (Hash_any _ _ _ _ hs ?_).mono ?_; (exact tab_flat HT.out (by assumption)); rintro e w' ⟨rfl, hb⟩)
      | (go_at_call 19; refine (refHash_any _ _ _ _ hs).mono ?_; rintro e w' ⟨rfl, hb⟩))
  go_wp2
  go_ret
  exact ⟨ret_bool (by simp), flat_below (by assumption)⟩

set_option maxHeartbeats 2000000 in
set_option maxRecDepth 100000 in
theorem texts_hi_none (k n : Int) (s : ByteArray) (w : World) (hT : Tab w) (hs : s.size ≤ maxLen) (hl : isLong s = false) (hm : isName s.data.toList = false) (hn : inRng n = false) (d1 : decide (-2147483647 ≤ n) = true) (d2 : decide (n ≤ 2147483647) = false) :
    Calls Tryd.prog 3 #[vv k n s] w fun e w' => e = .returned (.bool true) ∧ Below w.heap.size w w' := by
  have HT := Lib.hid hT
  clear hT
  have HL := Lib.hid hl
  clear hl
  have HM := Lib.hid hm
  clear hm
  have HN := Lib.hid hn
  clear hn
  have st0 := St1.new w k n s
  go_enter Tryd.func3, Tryd.ntmps3
  go_wp2_with fail
  refine (alive_any _ (HT.out.below st0.2)).mono ?_
  rintro e w1 ⟨rfl, b1⟩
  have st1 := st0.step b1
  clear st0
  obtain ⟨⟨p0, p1, p2, p3⟩, B1⟩ := id st1
  go_wp2_with fail
  refine (Long_is1 _ _ _ _ HL.out _).mono ?_
  rintro e w2 ⟨rfl, b2⟩
  have st2 := st1.step b2
  clear st1 p0 p1 p2 p3 B1
  obtain ⟨⟨p0, p1, p2, p3⟩, B2⟩ := id st2
  go_wp2_with fail
  refine (Of_no _ _ HN.out).mono ?_
  rintro e w3 ⟨rfl, b3⟩
  have st3 := st2.step b3
  clear st2 p0 p1 p2 p3 B2
  have xa3 := Box.new w3 0 0 noText
  have st3' := st3.alloc (.cells #[.int .i64 0, .int .i64 0, .string noText] 24)
  obtain ⟨⟨p0, p1, p2, p3⟩, B3⟩ := id st3
  go_wp2_with fail
  refine (Symbol_no _ _ hs HM.out).mono ?_
  rintro e w4 ⟨rfl, b4⟩
  have st4 := st3'.step b4
  have xa4 := xa3.below b4
  have xb4 := Box.new w4 0 0 noText
  have n4 : Below w4.heap.size w4 (w4.alloc (.cells #[.int .i64 0, .int .i64 0, .string noText] 24)) := (Below.refl _ _).alloc (Nat.le_refl _) _
  clear st3 st3' p0 p1 p2 p3 B3 xa3
  obtain ⟨⟨p0, p1, p2, p3⟩, B4⟩ := id st4
  obtain ⟨q0, q1, q2, q3⟩ := id xa4
  go_wp2_with fail
  go_quiet ((go_at_call 11; exact qcall (fun W => Is_eno 10 10 W rfl true rfl) _))
  have st5 := (st4.step n4).step (below_drewN (Below.refl _ _) nq)
  have xb5 := xb4.below (below_drewN (Below.refl _ _) nq)
  obtain ⟨w5, hw5⟩ : ∃ w5, w5 = (w4.alloc (.cells #[.int .i64 0, .int .i64 0, .string noText] 24)).drewN nq := ⟨_, rfl⟩
  rw [← hw5] at st5 xb5
  clear p0 p1 p2 p3 q0 q1 q2 q3 B4 st4 xa4 xb4 n4
  obtain ⟨⟨p0, p1, p2, p3⟩, B5⟩ := id st5
  obtain ⟨q0, q1, q2, q3⟩ := id xb5
  go_wp2_with fail
  rw [← hw5]
  clear hw5
  go_quiet ((first | (go_at_call 12; exact qcall (fun W => refName_is _ _ HM.out hs W) _) | (go_at_call 11; exact qcall (fun W => Is_eno 5 5 W rfl true rfl) _)))
  have st6 := st5.step (below_drewN (Below.refl _ _) nq)
  obtain ⟨w6, hw6⟩ : ∃ w6, w6 = w5.drewN nq := ⟨_, rfl⟩
  rw [← hw6] at st6
  clear p0 p1 p2 p3 q0 q1 q2 q3 B5 st5 xb5
  obtain ⟨⟨p0, p1, p2, p3⟩, B6⟩ := id st6
  go_wp2_with fail
  rw [← hw6]
  clear hw6
  go_region_held3 (fun w' => w'.cell? ⟨w.heap.size, 0, none⟩ = some (.int .i64 k) ∧ w'.cell? ⟨w.heap.size, 1, none⟩ = some (.int .i64 n) ∧ w'.cell? ⟨w.heap.size, 2, none⟩ = some (.string s) ∧ w.heap.size < w'.heap.size ∧ Below w.heap.size w w')
    (first | exact (st6.step (Below.refl _ _).drew).flat | exact flat_step (by assumption) hb | go_keep)
    (first
      | (go_at_call 13; refine (Name_is _ _ HM.out hs _).mono ?_; rintro e w' ⟨rfl, rfl⟩)
      | (go_at_call 12; refine (refName_is _ _ HM.out hs _).mono ?_; rintro e w' ⟨rfl, rfl⟩)
      | (go_at_call 14; refine (Right_any _ _ _ _ hs).mono ?_; rintro e w' ⟨rfl, hb⟩)
      | (go_at_call 15; refine (refRight_any _ _ _ _ hs).mono ?_; rintro e w' ⟨rfl, hb⟩)
      | (go_at_call 16; refine (Text_any _ _ _ _ hs ?_).mono ?_; (exact tab_flat HT.out (by assumption)); rintro e w' ⟨rfl, hb⟩)
      | (go_at_call 17; refine (refText_any _ _ _ _ hs).mono ?_; rintro e w' ⟨rfl, hb⟩)
      | (go_at_call 18; refine (Hash_any _ _ _ _ hs ?_).mono ?_; (exact tab_flat HT.out (by assumption)); rintro e w' ⟨rfl, hb⟩)
      | (go_at_call 19; refine (refHash_any _ _ _ _ hs).mono ?_; rintro e w' ⟨rfl, hb⟩))
  go_wp2
  go_ret
  exact ⟨ret_bool (by simp), flat_below (by assumption)⟩

theorem texts_walk (k n : Int) (s : ByteArray) (w : World) (hT : Tab w) (hs : s.size ≤ maxLen) :
    Calls Tryd.prog 3 #[vv k n s] w fun e w' => e = .returned (.bool true) ∧ Below w.heap.size w w' := by
  cases hl : isLong s with
  | true => exact texts_long k n s w hT hl
  | false =>
  by_cases h1 : -2147483647 ≤ n
  · have d1 : decide (-2147483647 ≤ n) = true := by simpa using h1
    by_cases h2 : n ≤ 2147483647
    · have d2 : decide (n ≤ 2147483647) = true := by simpa using h2
      cases hm : isName s.data.toList with
      | true => exact texts_in_name k n s w hT hs hl hm (inRng_true h1 h2) d1 d2
      | false => exact texts_in_none k n s w hT hs hl hm (inRng_true h1 h2) d1 d2
    · have d2 : decide (n ≤ 2147483647) = false := by simpa using h2
      have hn : inRng n = false := by simp [inRng, h2]
      cases hm : isName s.data.toList with
      | true => exact texts_hi_name k n s w hT hs hl hm hn d1 d2
      | false => exact texts_hi_none k n s w hT hs hl hm hn d1 d2
  · have d1 : decide (-2147483647 ≤ n) = false := by simpa using h1
    have hn : inRng n = false := by simp [inRng, h1]
    cases hm : isName s.data.toList with
    | true => exact texts_lo_name k n s w hT hs hl hm hn d1
    | false => exact texts_lo_none k n s w hT hs hl hm hn d1

end Go.Proofs.YtkjgkiogjelcoaaDoor
