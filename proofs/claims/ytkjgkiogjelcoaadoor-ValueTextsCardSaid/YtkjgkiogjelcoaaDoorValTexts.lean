/- ValueTexts' walk: the law's own steps, for every value. Conditions: the library's table. -/
import Derived.Test.YtkjgkiogjelcoaaDoorValDig
import Derived.Deep.QuietTactic
import Derived.BigQuiet
import Derived.Deep.RegionHeld3
namespace Go.Proofs.YtkjgkiogjelcoaaDoor
open Go.RowKit

/-- a box beside what was there. -/
def St1 (W w : World) (k n : Int) (s : ByteArray) : Prop := Box w W.heap.size k n s ∧ Below W.heap.size W w
theorem St1.step {W w w' : World} {k n : Int} {s : ByteArray} (h : St1 W w k n s) (hb : Below w.heap.size w w') : St1 W w' k n s := ⟨h.1.below hb, h.2.trans (hb.mono h.2.size)⟩
theorem St1.flat {W w : World} {k n : Int} {s : ByteArray} (h : St1 W w k n s) :
    w.cell? ⟨W.heap.size, 0, none⟩ = some (.int .i64 k) ∧ w.cell? ⟨W.heap.size, 1, none⟩ = some (.int .i64 n) ∧ w.cell? ⟨W.heap.size, 2, none⟩ = some (.string s) ∧ W.heap.size < w.heap.size ∧ Below W.heap.size W w :=
  ⟨h.1.1, h.1.2.1, h.1.2.2.1, h.1.2.2.2, h.2⟩
theorem St1.new (w : World) (k n : Int) (s : ByteArray) : St1 w (w.alloc (.cells #[.int .i64 k, .int .i64 n, .string s] 24)) k n s :=
  ⟨Box.new w k n s, (Below.refl _ _).alloc (Nat.le_refl _) _⟩
theorem St1.alloc {W w : World} {k n : Int} {s : ByteArray} (h : St1 W w k n s) (o : Obj) : St1 W (w.alloc o) k n s := h.step ((Below.refl _ _).alloc (Nat.le_refl _) _)
theorem qcall {f : FuncId} {args : Array Value} {w : World} {v : Value} (c : ∀ W, Calls Tryd.prog f args W fun e w' => e = .returned v ∧ W = w') (n : Nat) :
    Calls Tryd.prog f args (w.drewN n) fun e w'' => e = .returned v ∧ ∃ m, w'' = w.drewN m :=
  (c _).mono fun _ _ h => ⟨h.1, n, h.2.symm⟩
theorem Long_is1 (k n : Int) (s : ByteArray) (b : Bool) (h : isLong s = b) (w : World) :
    Calls Tryd.prog 8 #[vv k n s] w fun e w' => e = .returned (.bool b) ∧ Below w.heap.size w w' := by
  subst h; exact Long_any k n s w

theorem flat_step {W w w' : World} {k n : Int} {s : ByteArray}
    (h : w.cell? ⟨W.heap.size, 0, none⟩ = some (.int .i64 k) ∧ w.cell? ⟨W.heap.size, 1, none⟩ = some (.int .i64 n) ∧ w.cell? ⟨W.heap.size, 2, none⟩ = some (.string s) ∧ W.heap.size < w.heap.size ∧ Below W.heap.size W w) (hb : Below w.heap.size w w') :
    w'.cell? ⟨W.heap.size, 0, none⟩ = some (.int .i64 k) ∧ w'.cell? ⟨W.heap.size, 1, none⟩ = some (.int .i64 n) ∧ w'.cell? ⟨W.heap.size, 2, none⟩ = some (.string s) ∧ W.heap.size < w'.heap.size ∧ Below W.heap.size W w' :=
  (St1.step ⟨⟨h.1, h.2.1, h.2.2.1, h.2.2.2.1⟩, h.2.2.2.2⟩ hb).flat
theorem flat_below {W w : World} {k n : Int} {s : ByteArray}
    (h : w.cell? ⟨W.heap.size, 0, none⟩ = some (.int .i64 k) ∧ w.cell? ⟨W.heap.size, 1, none⟩ = some (.int .i64 n) ∧ w.cell? ⟨W.heap.size, 2, none⟩ = some (.string s) ∧ W.heap.size < w.heap.size ∧ Below W.heap.size W w) : Below W.heap.size W w := h.2.2.2.2
theorem tab_flat {W w : World} {k n : Int} {s : ByteArray} (hT : Tab W)
    (h : w.cell? ⟨W.heap.size, 0, none⟩ = some (.int .i64 k) ∧ w.cell? ⟨W.heap.size, 1, none⟩ = some (.int .i64 n) ∧ w.cell? ⟨W.heap.size, 2, none⟩ = some (.string s) ∧ W.heap.size < w.heap.size ∧ Below W.heap.size W w) : Tab w := hT.below h.2.2.2.2

set_option maxHeartbeats 2000000 in
set_option maxRecDepth 100000 in
theorem texts_long (k n : Int) (s : ByteArray) (w : World) (hT : Tab w) (hl : isLong s = true) :
    Calls Tryd.prog 3 #[vv k n s] w fun e w' => e = .returned (.bool true) ∧ Below w.heap.size w w' := by
  have HT := Lib.hid hT
  clear hT
  have HL := Lib.hid hl
  clear hl
  have st0 := St1.new w k n s
  go_enter Tryd.func3, Tryd.ntmps3
  go_wp2_with fail
  refine (alive_any _ (HT.out.below st0.2)).mono ?_
  rintro e w1 ⟨rfl, b1⟩
  have st1 := st0.step b1
  clear st0
  obtain ⟨⟨p0, p1, p2, p3⟩, B1⟩ := id st1
  go_wp2_with fail
  refine (Long_is1 _ _ _ _ HL.out _).mono ?_
  rintro e w2 ⟨rfl, b2⟩
  have st2 := st1.step b2
  clear st1 p0 p1 p2 p3 B1
  go_wp2
  go_ret
  exact ⟨rfl, st2.2⟩

set_option maxHeartbeats 2000000 in
set_option maxRecDepth 100000 in
theorem texts_in_name (k n : Int) (s : ByteArray) (w : World) (hT : Tab w) (hs : s.size ≤ maxLen) (hl : isLong s = false) (hm : isName s.data.toList = true) (hn : inRng n = true) (d1 : decide (-2147483647 ≤ n) = true) (d2 : decide (n ≤ 2147483647) = true) :
    Calls Tryd.prog 3 #[vv k n s] w fun e w' => e = .returned (.bool true) ∧ Below w.heap.size w w' := by
  have HT := Lib.hid hT
  clear hT
  have HL := Lib.hid hl
  clear hl
  have HM := Lib.hid hm
  clear hm
  have HN := Lib.hid hn
  clear hn
  have st0 := St1.new w k n s
  go_enter Tryd.func3, Tryd.ntmps3
  go_wp2_with fail
  refine (alive_any _ (HT.out.below st0.2)).mono ?_
  rintro e w1 ⟨rfl, b1⟩
  have st1 := st0.step b1
  clear st0
  obtain ⟨⟨p0, p1, p2, p3⟩, B1⟩ := id st1
  go_wp2_with fail
  refine (Long_is1 _ _ _ _ HL.out _).mono ?_
  rintro e w2 ⟨rfl, b2⟩
  have st2 := st1.step b2
  clear st1 p0 p1 p2 p3 B1
  obtain ⟨⟨p0, p1, p2, p3⟩, B2⟩ := id st2
  go_wp2_with fail
  refine (Of_ok _ _ HN.out).mono ?_
  rintro e w3 ⟨rfl, b3⟩
  have st3 := st2.step b3
  clear st2 p0 p1 p2 p3 B2
  have xa3 := Box.new w3 1 n noText
  have st3' := st3.alloc (.cells #[.int .i64 1, .int .i64 n, .string noText] 24)
  obtain ⟨⟨p0, p1, p2, p3⟩, B3⟩ := id st3
  go_wp2_with fail
  refine (Symbol_ok _ _ hs HM.out).mono ?_
  rintro e w4 ⟨rfl, b4⟩
  have st4 := st3'.step b4
  have xa4 := xa3.below b4
  have xb4 := Box.new w4 2 0 s
  have n4 : Below w4.heap.size w4 (w4.alloc (.cells #[.int .i64 2, .int .i64 0, .string s] 24)) := (Below.refl _ _).alloc (Nat.le_refl _) _
  clear st3 st3' p0 p1 p2 p3 B3 xa3
  obtain ⟨⟨p0, p1, p2, p3⟩, B4⟩ := id st4
  obtain ⟨q0, q1, q2, q3⟩ := id xa4
  go_wp2_with fail
  go_quiet (fail)
  have st5 := (st4.step n4).step (below_drewN (Below.refl _ _) nq)
  have xb5 := xb4.below (below_drewN (Below.refl _ _) nq)
  obtain ⟨w5, hw5⟩ : ∃ w5, w5 = (w4.alloc (.cells #[.int .i64 2, .int .i64 0, .string s] 24)).drewN nq := ⟨_, rfl⟩
  rw [← hw5] at st5 xb5
  clear p0 p1 p2 p3 q0 q1 q2 q3 B4 st4 xa4 xb4 n4
  obtain ⟨⟨p0, p1, p2, p3⟩, B5⟩ := id st5
  obtain ⟨q0, q1, q2, q3⟩ := id xb5
  go_wp2_with fail
  rw [← hw5]
  clear hw5
  go_quiet ((go_at_call 12; exact qcall (fun W => refName_is _ _ HM.out hs W) _))
  have st6 := st5.step (below_drewN (Below.refl _ _) nq)
  obtain ⟨w6, hw6⟩ : ∃ w6, w6 = w5.drewN nq := ⟨_, rfl⟩
  rw [← hw6] at st6
  clear p0 p1 p2 p3 q0 q1 q2 q3 B5 st5 xb5
  obtain ⟨⟨p0, p1, p2, p3⟩, B6⟩ := id st6
  go_wp2_with fail
  rw [← hw6]
  clear hw6
  go_region_held3 (fun w' => w'.cell? ⟨w.heap.size, 0, none⟩ = some (.int .i64 k) ∧ w'.cell? ⟨w.heap.size, 1, none⟩ = some (.int .i64 n) ∧ w'.cell? ⟨w.heap.size, 2, none⟩ = some (.string s) ∧ w.heap.size < w'.heap.size ∧ Below w.heap.size w w')
    (first | exact (st6.step (Below.refl _ _).drew).flat | exact flat_step (by assumption) hb | go_keep)
    (first
      | (go_at_call 13; refine (Name_is _ _ HM.out hs _).mono ?_; rintro e w' ⟨rfl, rfl⟩)
      | (go_at_call 12; refine (refName_is _ _ HM.out hs _).mono ?_; rintro e w' ⟨rfl, rfl⟩)
      | (go_at_call 14; refine (Right_any _ _ _ _ hs).mono ?_; rintro e w' ⟨rfl, hb⟩)
      | (go_at_call 15; refine (refRight_any _ _ _ _ hs).mono ?_; rintro e w' ⟨rfl, hb⟩)
      | (go_at_call 16; refine (Text_any _ _ _ _ hs ?_).mono ?_; (exact tab_flat HT.out (by assumption)); rintro e w' ⟨rfl, hb⟩)
      | (go_at_call 17; refine (refText_any _ _ _ _ hs).mono ?_; rintro e w' ⟨rfl, hb⟩)
      | (go_at_call 18; refine (Hash_any _ _ _ _ hs ?_).mono ?_; (exact tab_flat HT.out (by assumption)); rintro e w' ⟨rfl, hb⟩)
      | (go_at_call 19; refine (refHash_any _ _ _ _ hs).mono ?_; rintro e w' ⟨rfl, hb⟩))
  go_wp2
  go_ret
  exact ⟨ret_bool (by simp), flat_below (by assumption)⟩

set_option maxHeartbeats 2000000 in
set_option maxRecDepth 100000 in
theorem texts_in_none (k n : Int) (s : ByteArray) (w : World) (hT : Tab w) (hs : s.size ≤ maxLen) (hl : isLong s = false) (hm : isName s.data.toList = false) (hn : inRng n = true) (d1 : decide (-2147483647 ≤ n) = true) (d2 : decide (n ≤ 2147483647) = true) :
    Calls Tryd.prog 3 #[vv k n s] w fun e w' => e = .returned (.bool true) ∧ Below w.heap.size w w' := by
  have HT := Lib.hid hT
  clear hT
  have HL := Lib.hid hl
  clear hl
  have HM := Lib.hid hm
  clear hm
  have HN := Lib.hid hn
  clear hn
  have st0 := St1.new w k n s
  go_enter Tryd.func3, Tryd.ntmps3
  go_wp2_with fail
  refine (alive_any _ (HT.out.below st0.2)).mono ?_
  rintro e w1 ⟨rfl, b1⟩
  have st1 := st0.step b1
  clear st0
  obtain ⟨⟨p0, p1, p2, p3⟩, B1⟩ := id st1
  go_wp2_with fail
  refine (Long_is1 _ _ _ _ HL.out _).mono ?_
  rintro e w2 ⟨rfl, b2⟩
  have st2 := st1.step b2
  clear st1 p0 p1 p2 p3 B1
  obtain ⟨⟨p0, p1, p2, p3⟩, B2⟩ := id st2
  go_wp2_with fail
  refine (Of_ok _ _ HN.out).mono ?_
  rintro e w3 ⟨rfl, b3⟩
  have st3 := st2.step b3
  clear st2 p0 p1 p2 p3 B2
  have xa3 := Box.new w3 1 n noText
  have st3' := st3.alloc (.cells #[.int .i64 1, .int .i64 n, .string noText] 24)
  obtain ⟨⟨p0, p1, p2, p3⟩, B3⟩ := id st3
  go_wp2_with fail
  refine (Symbol_no _ _ hs HM.out).mono ?_
  rintro e w4 ⟨rfl, b4⟩
  have st4 := st3'.step b4
  have xa4 := xa3.below b4
  have xb4 := Box.new w4 0 0 noText
  have n4 : Below w4.heap.size w4 (w4.alloc (.cells #[.int .i64 0, .int .i64 0, .string noText] 24)) := (Below.refl _ _).alloc (Nat.le_refl _) _
  clear st3 st3' p0 p1 p2 p3 B3 xa3
  obtain ⟨⟨p0, p1, p2, p3⟩, B4⟩ := id st4
  obtain ⟨q0, q1, q2, q3⟩ := id xa4
  go_wp2_with fail
  go_quiet (fail)
  have st5 := (st4.step n4).step (below_drewN (Below.refl _ _) nq)
  have xb5 := xb4.below (below_drewN (Below.refl _ _) nq)
  obtain ⟨w5, hw5⟩ : ∃ w5, w5 = (w4.alloc (.cells #[.int .i64 0, .int .i64 0, .string noText] 24)).drewN nq := ⟨_, rfl⟩
  rw [← hw5] at st5 xb5
  clear p0 p1 p2 p3 q0 q1 q2 q3 B4 st4 xa4 xb4 n4
  obtain ⟨⟨p0, p1, p2, p3⟩, B5⟩ := id st5
  obtain ⟨q0, q1, q2, q3⟩ := id xb5
  go_wp2_with fail
  rw [← hw5]
  clear hw5
  go_quiet ((first | (go_at_call 12; exact qcall (fun W => refName_is _ _ HM.out hs W) _) | (go_at_call 11; exact qcall (fun W => Is_eno 5 5 W rfl true rfl) _)))
  have st6 := st5.step (below_drewN (Below.refl _ _) nq)
  obtain ⟨w6, hw6⟩ : ∃ w6, w6 = w5.drewN nq := ⟨_, rfl⟩
  rw [← hw6] at st6
  clear p0 p1 p2 p3 q0 q1 q2 q3 B5 st5 xb5
  obtain ⟨⟨p0, p1, p2, p3⟩, B6⟩ := id st6
  go_wp2_with fail
  rw [← hw6]
  clear hw6
  go_region_held3 (fun w' => w'.cell? ⟨w.heap.size, 0, none⟩ = some (.int .i64 k) ∧ w'.cell? ⟨w.heap.size, 1, none⟩ = some (.int .i64 n) ∧ w'.cell? ⟨w.heap.size, 2, none⟩ = some (.string s) ∧ w.heap.size < w'.heap.size ∧ Below w.heap.size w w')
    (first | exact (st6.step (Below.refl _ _).drew).flat | exact flat_step (by assumption) hb | go_keep)
    (first
      | (go_at_call 13; refine (Name_is _ _ HM.out hs _).mono ?_; rintro e w' ⟨rfl, rfl⟩)
      | (go_at_call 12; refine (refName_is _ _ HM.out hs _).mono ?_; rintro e w' ⟨rfl, rfl⟩)
      | (go_at_call 14; refine (Right_any _ _ _ _ hs).mono ?_; rintro e w' ⟨rfl, hb⟩)
      | (go_at_call 15; refine (refRight_any _ _ _ _ hs).mono ?_; rintro e w' ⟨rfl, hb⟩)
      | (go_at_call 16; refine (Text_any _ _ _ _ hs ?_).mono ?_; (exact tab_flat HT.out (by assumption)); rintro e w' ⟨rfl, hb⟩)
      | (go_at_call 17; refine (refText_any _ _ _ _ hs).mono ?_; rintro e w' ⟨rfl, hb⟩)
      | (go_at_call 18; refine (Hash_any _ _ _ _ hs ?_).mono ?_; (exact tab_flat HT.out (by assumption)); rintro e w' ⟨rfl, hb⟩)
      | (go_at_call 19; refine (refHash_any _ _ _ _ hs).mono ?_; rintro e w' ⟨rfl, hb⟩))
  go_wp2
  go_ret
  exact ⟨ret_bool (by simp), flat_below (by assumption)⟩

end Go.Proofs.YtkjgkiogjelcoaaDoor
