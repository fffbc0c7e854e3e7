/- ValueOrders' walk: the law's own steps, for every three values. Conditions: the library's table. -/
import Derived.Test.YtkjgkiogjelcoaaDoorValText
import Derived.Test.YtkjgkiogjelcoaaDoorValOrd
namespace Go.Proofs.YtkjgkiogjelcoaaDoor
open Go.RowKit

/-- three boxes that hold the three values, and what lay before is as it was. -/
def St3 (W w : World) (k1 n1 : Int) (s1 : ByteArray) (k2 n2 : Int) (s2 : ByteArray) (k3 n3 : Int) (s3 : ByteArray) : Prop :=
  Box w W.heap.size k1 n1 s1 ∧ Box w (W.heap.size + 1) k2 n2 s2 ∧ Box w (W.heap.size + 1 + 1) k3 n3 s3 ∧ Below W.heap.size W w
theorem St3.step {W w w' : World} {k1 n1 : Int} {s1 : ByteArray} {k2 n2 : Int} {s2 : ByteArray} {k3 n3 : Int} {s3 : ByteArray} (h : St3 W w k1 n1 s1 k2 n2 s2 k3 n3 s3) (hb : Below w.heap.size w w') :
    St3 W w' k1 n1 s1 k2 n2 s2 k3 n3 s3 :=
  ⟨h.1.below hb, h.2.1.below hb, h.2.2.1.below hb, h.2.2.2.trans (hb.mono h.2.2.2.size)⟩
theorem St3.new (W : World) (k1 n1 : Int) (s1 : ByteArray) (k2 n2 : Int) (s2 : ByteArray) (k3 n3 : Int) (s3 : ByteArray) :
    St3 W (((W.alloc (.cells #[.int .i64 k1, .int .i64 n1, .string s1] 24)).alloc (.cells #[.int .i64 k2, .int .i64 n2, .string s2] 24)).alloc (.cells #[.int .i64 k3, .int .i64 n3, .string s3] 24)) k1 n1 s1 k2 n2 s2 k3 n3 s3 := by
  have x1 := Box.new W k1 n1 s1
  have x2 := Box.new (W.alloc (.cells #[.int .i64 k1, .int .i64 n1, .string s1] 24)) k2 n2 s2
  have x3 := Box.new ((W.alloc (.cells #[.int .i64 k1, .int .i64 n1, .string s1] 24)).alloc (.cells #[.int .i64 k2, .int .i64 n2, .string s2] 24)) k3 n3 s3
  simp only [World.size_alloc] at x2 x3
  have c2 : ∀ (w : World) (o : Obj), Below w.heap.size w (w.alloc o) := fun w o => (Below.refl _ _).alloc (Nat.le_refl _) o
  refine ⟨(x1.below (c2 _ _)).below (c2 _ _), x2.below (c2 _ _), x3, ?_⟩
  exact (((Below.refl _ _).alloc (Nat.le_refl _) _).alloc (by simp) _).alloc (by simp; omega) _

theorem Long_is (k n : Int) (s : ByteArray) (b : Bool) (h : isLong s = b) (w : World) :
    Calls Tryd.prog 8 #[vv k n s] w fun e w' => e = .returned (.bool b) ∧ Below w.heap.size w w' := by
  subst h; exact Long_any k n s w
theorem Less_is (k n : Int) (s : ByteArray) (k' n' : Int) (s' : ByteArray) (b : Bool) (h : lessV k n s k' n' s' = b) (w : World) :
    Calls Tryd.prog 24 #[vv k n s, vv k' n' s'] w fun e w' => e = .returned (.bool b) ∧ Below w.heap.size w w' := by
  subst h; exact Less_any k n s k' n' s' w

set_option maxHeartbeats 2000000 in
theorem orders_long1 (k1 n1 : Int) (s1 : ByteArray) (k2 n2 : Int) (s2 : ByteArray) (k3 n3 : Int) (s3 : ByteArray) (w : World) (hT : Tab w)
    (h1 : isLong s1 = true) :
    Calls Tryd.prog 5 #[vv k1 n1 s1, vv k2 n2 s2, vv k3 n3 s3] w fun e w' => e = .returned (.bool true) ∧ Below w.heap.size w w' := by
  have HT := Lib.hid hT
  clear hT
  have H1 := Lib.hid h1
  clear h1
  have st0 := St3.new w k1 n1 s1 k2 n2 s2 k3 n3 s3
  go_enter Tryd.func5, Tryd.ntmps5
  go_wp2_with fail
  refine (alive_any _ (HT.out.below st0.2.2.2)).mono ?_
  rintro e w1 ⟨rfl, b1⟩
  have st1 := st0.step b1
  clear st0
  obtain ⟨⟨a0, a1, a2, a3⟩, ⟨d0, d1, d2, d3⟩, ⟨g0, g1, g2, g3⟩, B1⟩ := id st1
  go_wp2_with fail
  refine (Long_is _ _ _ _ H1.out _).mono ?_
  rintro e w2 ⟨rfl, b2⟩
  have st2 := st1.step b2
  clear a0 a1 a2 a3 d0 d1 d2 d3 g0 g1 g2 g3
  obtain ⟨⟨a0, a1, a2, a3⟩, ⟨d0, d1, d2, d3⟩, ⟨g0, g1, g2, g3⟩, B2⟩ := id st2
  go_wp2
  go_ret
  exact ⟨rfl, B2⟩

set_option maxHeartbeats 2000000 in
theorem orders_long2 (k1 n1 : Int) (s1 : ByteArray) (k2 n2 : Int) (s2 : ByteArray) (k3 n3 : Int) (s3 : ByteArray) (w : World) (hT : Tab w)
    (h1 : isLong s1 = false) (h2 : isLong s2 = true) :
    Calls Tryd.prog 5 #[vv k1 n1 s1, vv k2 n2 s2, vv k3 n3 s3] w fun e w' => e = .returned (.bool true) ∧ Below w.heap.size w w' := by
  have HT := Lib.hid hT
  clear hT
  have H1 := Lib.hid h1
  clear h1
  have H2 := Lib.hid h2
  clear h2
  have st0 := St3.new w k1 n1 s1 k2 n2 s2 k3 n3 s3
  go_enter Tryd.func5, Tryd.ntmps5
  go_wp2_with fail
  refine (alive_any _ (HT.out.below st0.2.2.2)).mono ?_
  rintro e w1 ⟨rfl, b1⟩
  have st1 := st0.step b1
  clear st0
  obtain ⟨⟨a0, a1, a2, a3⟩, ⟨d0, d1, d2, d3⟩, ⟨g0, g1, g2, g3⟩, B1⟩ := id st1
  go_wp2_with fail
  refine (Long_is _ _ _ _ H1.out _).mono ?_
  rintro e w2 ⟨rfl, b2⟩
  have st2 := st1.step b2
  clear a0 a1 a2 a3 d0 d1 d2 d3 g0 g1 g2 g3
  obtain ⟨⟨a0, a1, a2, a3⟩, ⟨d0, d1, d2, d3⟩, ⟨g0, g1, g2, g3⟩, B2⟩ := id st2
  go_wp2_with fail
  refine (Long_is _ _ _ _ H2.out _).mono ?_
  rintro e w3 ⟨rfl, b3⟩
  have st3 := st2.step b3
  clear a0 a1 a2 a3 d0 d1 d2 d3 g0 g1 g2 g3
  obtain ⟨⟨a0, a1, a2, a3⟩, ⟨d0, d1, d2, d3⟩, ⟨g0, g1, g2, g3⟩, B3⟩ := id st3
  go_wp2
  go_ret
  exact ⟨rfl, B3⟩

set_option maxHeartbeats 2000000 in
theorem orders_long3 (k1 n1 : Int) (s1 : ByteArray) (k2 n2 : Int) (s2 : ByteArray) (k3 n3 : Int) (s3 : ByteArray) (w : World) (hT : Tab w)
    (h1 : isLong s1 = false) (h2 : isLong s2 = false) (h3 : isLong s3 = true) :
    Calls Tryd.prog 5 #[vv k1 n1 s1, vv k2 n2 s2, vv k3 n3 s3] w fun e w' => e = .returned (.bool true) ∧ Below w.heap.size w w' := by
  have HT := Lib.hid hT
  clear hT
  have H1 := Lib.hid h1
  clear h1
  have H2 := Lib.hid h2
  clear h2
  have H3 := Lib.hid h3
  clear h3
  have st0 := St3.new w k1 n1 s1 k2 n2 s2 k3 n3 s3
  go_enter Tryd.func5, Tryd.ntmps5
  go_wp2_with fail
  refine (alive_any _ (HT.out.below st0.2.2.2)).mono ?_
  rintro e w1 ⟨rfl, b1⟩
  have st1 := st0.step b1
  clear st0
  obtain ⟨⟨a0, a1, a2, a3⟩, ⟨d0, d1, d2, d3⟩, ⟨g0, g1, g2, g3⟩, B1⟩ := id st1
  go_wp2_with fail
  refine (Long_is _ _ _ _ H1.out _).mono ?_
  rintro e w2 ⟨rfl, b2⟩
  have st2 := st1.step b2
  clear a0 a1 a2 a3 d0 d1 d2 d3 g0 g1 g2 g3
  obtain ⟨⟨a0, a1, a2, a3⟩, ⟨d0, d1, d2, d3⟩, ⟨g0, g1, g2, g3⟩, B2⟩ := id st2
  go_wp2_with fail
  refine (Long_is _ _ _ _ H2.out _).mono ?_
  rintro e w3 ⟨rfl, b3⟩
  have st3 := st2.step b3
  clear a0 a1 a2 a3 d0 d1 d2 d3 g0 g1 g2 g3
  obtain ⟨⟨a0, a1, a2, a3⟩, ⟨d0, d1, d2, d3⟩, ⟨g0, g1, g2, g3⟩, B3⟩ := id st3
  go_wp2_with fail
  refine (Long_is _ _ _ _ H3.out _).mono ?_
  rintro e w4 ⟨rfl, b4⟩
  have st4 := st3.step b4
  clear a0 a1 a2 a3 d0 d1 d2 d3 g0 g1 g2 g3
  obtain ⟨⟨a0, a1, a2, a3⟩, ⟨d0, d1, d2, d3⟩, ⟨g0, g1, g2, g3⟩, B4⟩ := id st4
  go_wp2
  go_ret
  exact ⟨rfl, B4⟩

set_option maxHeartbeats 2000000 in
theorem orders_bkmore (k1 n1 : Int) (s1 : ByteArray) (k2 : Int) (n2 : Int) (s2 : ByteArray) (k3 n3 : Int) (s3 : ByteArray) (w : World) (hT : Tab w)
    (h1 : isLong s1 = false) (h2 : isLong s2 = false) (h3 : isLong s3 = false) (hne : ¬ k1 = k2) (hl : lessV k1 n1 s1 k2 n2 s2 = true) (hm : lessV k2 n2 s2 k1 n1 s1 = false) (hc : cmpV k1 n1 s1 k2 n2 s2 = -1) (hd : cmpV k2 n2 s2 k1 n1 s1 = 1) (r2 : Int) (hr : 0 < r2) (hx : cmpV k2 n2 s2 k3 n3 s3 = r2) :
    Calls Tryd.prog 5 #[vv k1 n1 s1, vv k2 n2 s2, vv k3 n3 s3] w fun e w' => e = .returned (.bool true) ∧ Below w.heap.size w w' := by
  have HT := Lib.hid hT
  clear hT
  have H1 := Lib.hid h1
  clear h1
  have H2 := Lib.hid h2
  clear h2
  have H3 := Lib.hid h3
  clear h3
  have HL := Lib.hid hl
  clear hl
  have HM := Lib.hid hm
  clear hm
  have HC := Lib.hid hc
  clear hc
  have HD := Lib.hid hd
  clear hd
  have HX := Lib.hid hx
  clear hx
  have st0 := St3.new w k1 n1 s1 k2 n2 s2 k3 n3 s3
  go_enter Tryd.func5, Tryd.ntmps5
  go_wp2_with fail
  refine (alive_any _ (HT.out.below st0.2.2.2)).mono ?_
  rintro e w1 ⟨rfl, b1⟩
  have st1 := st0.step b1
  clear st0
  obtain ⟨⟨a0, a1, a2, a3⟩, ⟨d0, d1, d2, d3⟩, ⟨g0, g1, g2, g3⟩, B1⟩ := id st1
  go_wp2_with fail
  refine (Long_is _ _ _ _ H1.out _).mono ?_
  rintro e w2 ⟨rfl, b2⟩
  have st2 := st1.step b2
  clear a0 a1 a2 a3 d0 d1 d2 d3 g0 g1 g2 g3
  obtain ⟨⟨a0, a1, a2, a3⟩, ⟨d0, d1, d2, d3⟩, ⟨g0, g1, g2, g3⟩, B2⟩ := id st2
  go_wp2_with fail
  refine (Long_is _ _ _ _ H2.out _).mono ?_
  rintro e w3 ⟨rfl, b3⟩
  have st3 := st2.step b3
  clear a0 a1 a2 a3 d0 d1 d2 d3 g0 g1 g2 g3
  obtain ⟨⟨a0, a1, a2, a3⟩, ⟨d0, d1, d2, d3⟩, ⟨g0, g1, g2, g3⟩, B3⟩ := id st3
  go_wp2_with fail
  refine (Long_is _ _ _ _ H3.out _).mono ?_
  rintro e w4 ⟨rfl, b4⟩
  have st4 := st3.step b4
  clear a0 a1 a2 a3 d0 d1 d2 d3 g0 g1 g2 g3
  obtain ⟨⟨a0, a1, a2, a3⟩, ⟨d0, d1, d2, d3⟩, ⟨g0, g1, g2, g3⟩, B4⟩ := id st4
  go_wp2_with fail
  refine (Less_is _ _ _ _ _ _ _ HL.out _).mono ?_
  rintro e w5 ⟨rfl, b5⟩
  have st5 := st4.step b5
  clear a0 a1 a2 a3 d0 d1 d2 d3 g0 g1 g2 g3
  obtain ⟨⟨a0, a1, a2, a3⟩, ⟨d0, d1, d2, d3⟩, ⟨g0, g1, g2, g3⟩, B5⟩ := id st5
  go_wp2_with fail
  refine (Less_is _ _ _ _ _ _ _ HM.out _).mono ?_
  rintro e w6 ⟨rfl, b6⟩
  have st6 := st5.step b6
  clear a0 a1 a2 a3 d0 d1 d2 d3 g0 g1 g2 g3
  obtain ⟨⟨a0, a1, a2, a3⟩, ⟨d0, d1, d2, d3⟩, ⟨g0, g1, g2, g3⟩, B6⟩ := id st6
  go_wp2_with fail
  refine (Compare_is _ _ _ _ _ _ _ HC.out _).mono ?_
  rintro e w7 ⟨rfl, b7⟩
  have st7 := st6.step b7
  clear a0 a1 a2 a3 d0 d1 d2 d3 g0 g1 g2 g3
  obtain ⟨⟨a0, a1, a2, a3⟩, ⟨d0, d1, d2, d3⟩, ⟨g0, g1, g2, g3⟩, B7⟩ := id st7
  go_wp2_with fail
  refine (Compare_is _ _ _ _ _ _ _ HD.out _).mono ?_
  rintro e w8 ⟨rfl, b8⟩
  have st8 := st7.step b8
  clear a0 a1 a2 a3 d0 d1 d2 d3 g0 g1 g2 g3
  obtain ⟨⟨a0, a1, a2, a3⟩, ⟨d0, d1, d2, d3⟩, ⟨g0, g1, g2, g3⟩, B8⟩ := id st8
  go_wp2_with fail
  refine (Compare_is _ _ _ _ _ _ _ HC.out _).mono ?_
  rintro e w9 ⟨rfl, b9⟩
  have st9 := st8.step b9
  clear a0 a1 a2 a3 d0 d1 d2 d3 g0 g1 g2 g3
  obtain ⟨⟨a0, a1, a2, a3⟩, ⟨d0, d1, d2, d3⟩, ⟨g0, g1, g2, g3⟩, B9⟩ := id st9
  go_wp2_with fail
  refine (Compare_is _ _ _ _ _ _ _ HX.out _).mono ?_
  rintro e w10 ⟨rfl, b10⟩
  have st10 := st9.step b10
  clear a0 a1 a2 a3 d0 d1 d2 d3 g0 g1 g2 g3
  obtain ⟨⟨a0, a1, a2, a3⟩, ⟨d0, d1, d2, d3⟩, ⟨g0, g1, g2, g3⟩, B10⟩ := id st10
  go_wp2
  go_ret
  exact ⟨rfl, B10⟩

set_option maxHeartbeats 2000000 in
theorem orders_bkless (k1 n1 : Int) (s1 : ByteArray) (k2 : Int) (n2 : Int) (s2 : ByteArray) (k3 n3 : Int) (s3 : ByteArray) (w : World) (hT : Tab w)
    (h1 : isLong s1 = false) (h2 : isLong s2 = false) (h3 : isLong s3 = false) (hne : ¬ k1 = k2) (hl : lessV k1 n1 s1 k2 n2 s2 = true) (hm : lessV k2 n2 s2 k1 n1 s1 = false) (hc : cmpV k1 n1 s1 k2 n2 s2 = -1) (hd : cmpV k2 n2 s2 k1 n1 s1 = 1) (r2 r3 : Int) (hr : r2 ≤ 0) (hs : r3 ≤ 0) (hx : cmpV k2 n2 s2 k3 n3 s3 = r2) (hy : cmpV k1 n1 s1 k3 n3 s3 = r3) :
    Calls Tryd.prog 5 #[vv k1 n1 s1, vv k2 n2 s2, vv k3 n3 s3] w fun e w' => e = .returned (.bool true) ∧ Below w.heap.size w w' := by
  have HT := Lib.hid hT
  clear hT
  have H1 := Lib.hid h1
  clear h1
  have H2 := Lib.hid h2
  clear h2
  have H3 := Lib.hid h3
  clear h3
  have HL := Lib.hid hl
  clear hl
  have HM := Lib.hid hm
  clear hm
  have HC := Lib.hid hc
  clear hc
  have HD := Lib.hid hd
  clear hd
  have HX := Lib.hid hx
  clear hx
  have HY := Lib.hid hy
  clear hy
  have st0 := St3.new w k1 n1 s1 k2 n2 s2 k3 n3 s3
  go_enter Tryd.func5, Tryd.ntmps5
  go_wp2_with fail
  refine (alive_any _ (HT.out.below st0.2.2.2)).mono ?_
  rintro e w1 ⟨rfl, b1⟩
  have st1 := st0.step b1
  clear st0
  obtain ⟨⟨a0, a1, a2, a3⟩, ⟨d0, d1, d2, d3⟩, ⟨g0, g1, g2, g3⟩, B1⟩ := id st1
  go_wp2_with fail
  refine (Long_is _ _ _ _ H1.out _).mono ?_
  rintro e w2 ⟨rfl, b2⟩
  have st2 := st1.step b2
  clear a0 a1 a2 a3 d0 d1 d2 d3 g0 g1 g2 g3
  obtain ⟨⟨a0, a1, a2, a3⟩, ⟨d0, d1, d2, d3⟩, ⟨g0, g1, g2, g3⟩, B2⟩ := id st2
  go_wp2_with fail
  refine (Long_is _ _ _ _ H2.out _).mono ?_
  rintro e w3 ⟨rfl, b3⟩
  have st3 := st2.step b3
  clear a0 a1 a2 a3 d0 d1 d2 d3 g0 g1 g2 g3
  obtain ⟨⟨a0, a1, a2, a3⟩, ⟨d0, d1, d2, d3⟩, ⟨g0, g1, g2, g3⟩, B3⟩ := id st3
  go_wp2_with fail
  refine (Long_is _ _ _ _ H3.out _).mono ?_
  rintro e w4 ⟨rfl, b4⟩
  have st4 := st3.step b4
  clear a0 a1 a2 a3 d0 d1 d2 d3 g0 g1 g2 g3
  obtain ⟨⟨a0, a1, a2, a3⟩, ⟨d0, d1, d2, d3⟩, ⟨g0, g1, g2, g3⟩, B4⟩ := id st4
  go_wp2_with fail
  refine (Less_is _ _ _ _ _ _ _ HL.out _).mono ?_
  rintro e w5 ⟨rfl, b5⟩
  have st5 := st4.step b5
  clear a0 a1 a2 a3 d0 d1 d2 d3 g0 g1 g2 g3
  obtain ⟨⟨a0, a1, a2, a3⟩, ⟨d0, d1, d2, d3⟩, ⟨g0, g1, g2, g3⟩, B5⟩ := id st5
  go_wp2_with fail
  refine (Less_is _ _ _ _ _ _ _ HM.out _).mono ?_
  rintro e w6 ⟨rfl, b6⟩
  have st6 := st5.step b6
  clear a0 a1 a2 a3 d0 d1 d2 d3 g0 g1 g2 g3
  obtain ⟨⟨a0, a1, a2, a3⟩, ⟨d0, d1, d2, d3⟩, ⟨g0, g1, g2, g3⟩, B6⟩ := id st6
  go_wp2_with fail
  refine (Compare_is _ _ _ _ _ _ _ HC.out _).mono ?_
  rintro e w7 ⟨rfl, b7⟩
  have st7 := st6.step b7
  clear a0 a1 a2 a3 d0 d1 d2 d3 g0 g1 g2 g3
  obtain ⟨⟨a0, a1, a2, a3⟩, ⟨d0, d1, d2, d3⟩, ⟨g0, g1, g2, g3⟩, B7⟩ := id st7
  go_wp2_with fail
  refine (Compare_is _ _ _ _ _ _ _ HD.out _).mono ?_
  rintro e w8 ⟨rfl, b8⟩
  have st8 := st7.step b8
  clear a0 a1 a2 a3 d0 d1 d2 d3 g0 g1 g2 g3
  obtain ⟨⟨a0, a1, a2, a3⟩, ⟨d0, d1, d2, d3⟩, ⟨g0, g1, g2, g3⟩, B8⟩ := id st8
  go_wp2_with fail
  refine (Compare_is _ _ _ _ _ _ _ HC.out _).mono ?_
  rintro e w9 ⟨rfl, b9⟩
  have st9 := st8.step b9
  clear a0 a1 a2 a3 d0 d1 d2 d3 g0 g1 g2 g3
  obtain ⟨⟨a0, a1, a2, a3⟩, ⟨d0, d1, d2, d3⟩, ⟨g0, g1, g2, g3⟩, B9⟩ := id st9
  go_wp2_with fail
  refine (Compare_is _ _ _ _ _ _ _ HX.out _).mono ?_
  rintro e w10 ⟨rfl, b10⟩
  have st10 := st9.step b10
  clear a0 a1 a2 a3 d0 d1 d2 d3 g0 g1 g2 g3
  obtain ⟨⟨a0, a1, a2, a3⟩, ⟨d0, d1, d2, d3⟩, ⟨g0, g1, g2, g3⟩, B10⟩ := id st10
  go_wp2_with fail
  refine (Compare_is _ _ _ _ _ _ _ HY.out _).mono ?_
  rintro e w11 ⟨rfl, b11⟩
  have st11 := st10.step b11
  clear a0 a1 a2 a3 d0 d1 d2 d3 g0 g1 g2 g3
  obtain ⟨⟨a0, a1, a2, a3⟩, ⟨d0, d1, d2, d3⟩, ⟨g0, g1, g2, g3⟩, B11⟩ := id st11
  go_wp2
  go_ret
  exact ⟨rfl, B11⟩

set_option maxHeartbeats 2000000 in
theorem orders_bnmore (k1 n1 : Int) (s1 : ByteArray) (n2 : Int) (s2 : ByteArray) (k3 n3 : Int) (s3 : ByteArray) (w : World) (hT : Tab w)
    (h1 : isLong s1 = false) (h2 : isLong s2 = false) (h3 : isLong s3 = false) (hne : ¬ n1 = n2) (hl : lessV k1 n1 s1 k1 n2 s2 = true) (hm : lessV k1 n2 s2 k1 n1 s1 = false) (hc : cmpV k1 n1 s1 k1 n2 s2 = -1) (hd : cmpV k1 n2 s2 k1 n1 s1 = 1) (r2 : Int) (hr : 0 < r2) (hx : cmpV k1 n2 s2 k3 n3 s3 = r2) :
    Calls Tryd.prog 5 #[vv k1 n1 s1, vv k1 n2 s2, vv k3 n3 s3] w fun e w' => e = .returned (.bool true) ∧ Below w.heap.size w w' := by
  have HT := Lib.hid hT
  clear hT
  have H1 := Lib.hid h1
  clear h1
  have H2 := Lib.hid h2
  clear h2
  have H3 := Lib.hid h3
  clear h3
  have HL := Lib.hid hl
  clear hl
  have HM := Lib.hid hm
  clear hm
  have HC := Lib.hid hc
  clear hc
  have HD := Lib.hid hd
  clear hd
  have HX := Lib.hid hx
  clear hx
  have st0 := St3.new w k1 n1 s1 k1 n2 s2 k3 n3 s3
  go_enter Tryd.func5, Tryd.ntmps5
  go_wp2_with fail
  refine (alive_any _ (HT.out.below st0.2.2.2)).mono ?_
  rintro e w1 ⟨rfl, b1⟩
  have st1 := st0.step b1
  clear st0
  obtain ⟨⟨a0, a1, a2, a3⟩, ⟨d0, d1, d2, d3⟩, ⟨g0, g1, g2, g3⟩, B1⟩ := id st1
  go_wp2_with fail
  refine (Long_is _ _ _ _ H1.out _).mono ?_
  rintro e w2 ⟨rfl, b2⟩
  have st2 := st1.step b2
  clear a0 a1 a2 a3 d0 d1 d2 d3 g0 g1 g2 g3
  obtain ⟨⟨a0, a1, a2, a3⟩, ⟨d0, d1, d2, d3⟩, ⟨g0, g1, g2, g3⟩, B2⟩ := id st2
  go_wp2_with fail
  refine (Long_is _ _ _ _ H2.out _).mono ?_
  rintro e w3 ⟨rfl, b3⟩
  have st3 := st2.step b3
  clear a0 a1 a2 a3 d0 d1 d2 d3 g0 g1 g2 g3
  obtain ⟨⟨a0, a1, a2, a3⟩, ⟨d0, d1, d2, d3⟩, ⟨g0, g1, g2, g3⟩, B3⟩ := id st3
  go_wp2_with fail
  refine (Long_is _ _ _ _ H3.out _).mono ?_
  rintro e w4 ⟨rfl, b4⟩
  have st4 := st3.step b4
  clear a0 a1 a2 a3 d0 d1 d2 d3 g0 g1 g2 g3
  obtain ⟨⟨a0, a1, a2, a3⟩, ⟨d0, d1, d2, d3⟩, ⟨g0, g1, g2, g3⟩, B4⟩ := id st4
  go_wp2_with fail
  refine (Less_is _ _ _ _ _ _ _ HL.out _).mono ?_
  rintro e w5 ⟨rfl, b5⟩
  have st5 := st4.step b5
  clear a0 a1 a2 a3 d0 d1 d2 d3 g0 g1 g2 g3
  obtain ⟨⟨a0, a1, a2, a3⟩, ⟨d0, d1, d2, d3⟩, ⟨g0, g1, g2, g3⟩, B5⟩ := id st5
  go_wp2_with fail
  refine (Less_is _ _ _ _ _ _ _ HM.out _).mono ?_
  rintro e w6 ⟨rfl, b6⟩
  have st6 := st5.step b6
  clear a0 a1 a2 a3 d0 d1 d2 d3 g0 g1 g2 g3
  obtain ⟨⟨a0, a1, a2, a3⟩, ⟨d0, d1, d2, d3⟩, ⟨g0, g1, g2, g3⟩, B6⟩ := id st6
  go_wp2_with fail
  refine (Compare_is _ _ _ _ _ _ _ HC.out _).mono ?_
  rintro e w7 ⟨rfl, b7⟩
  have st7 := st6.step b7
  clear a0 a1 a2 a3 d0 d1 d2 d3 g0 g1 g2 g3
  obtain ⟨⟨a0, a1, a2, a3⟩, ⟨d0, d1, d2, d3⟩, ⟨g0, g1, g2, g3⟩, B7⟩ := id st7
  go_wp2_with fail
  refine (Compare_is _ _ _ _ _ _ _ HD.out _).mono ?_
  rintro e w8 ⟨rfl, b8⟩
  have st8 := st7.step b8
  clear a0 a1 a2 a3 d0 d1 d2 d3 g0 g1 g2 g3
  obtain ⟨⟨a0, a1, a2, a3⟩, ⟨d0, d1, d2, d3⟩, ⟨g0, g1, g2, g3⟩, B8⟩ := id st8
  go_wp2_with fail
  refine (Compare_is _ _ _ _ _ _ _ HC.out _).mono ?_
  rintro e w9 ⟨rfl, b9⟩
  have st9 := st8.step b9
  clear a0 a1 a2 a3 d0 d1 d2 d3 g0 g1 g2 g3
  obtain ⟨⟨a0, a1, a2, a3⟩, ⟨d0, d1, d2, d3⟩, ⟨g0, g1, g2, g3⟩, B9⟩ := id st9
  go_wp2_with fail
  refine (Compare_is _ _ _ _ _ _ _ HX.out _).mono ?_
  rintro e w10 ⟨rfl, b10⟩
  have st10 := st9.step b10
  clear a0 a1 a2 a3 d0 d1 d2 d3 g0 g1 g2 g3
  obtain ⟨⟨a0, a1, a2, a3⟩, ⟨d0, d1, d2, d3⟩, ⟨g0, g1, g2, g3⟩, B10⟩ := id st10
  go_wp2
  go_ret
  exact ⟨rfl, B10⟩

set_option maxHeartbeats 2000000 in
theorem orders_bnless (k1 n1 : Int) (s1 : ByteArray) (n2 : Int) (s2 : ByteArray) (k3 n3 : Int) (s3 : ByteArray) (w : World) (hT : Tab w)
    (h1 : isLong s1 = false) (h2 : isLong s2 = false) (h3 : isLong s3 = false) (hne : ¬ n1 = n2) (hl : lessV k1 n1 s1 k1 n2 s2 = true) (hm : lessV k1 n2 s2 k1 n1 s1 = false) (hc : cmpV k1 n1 s1 k1 n2 s2 = -1) (hd : cmpV k1 n2 s2 k1 n1 s1 = 1) (r2 r3 : Int) (hr : r2 ≤ 0) (hs : r3 ≤ 0) (hx : cmpV k1 n2 s2 k3 n3 s3 = r2) (hy : cmpV k1 n1 s1 k3 n3 s3 = r3) :
    Calls Tryd.prog 5 #[vv k1 n1 s1, vv k1 n2 s2, vv k3 n3 s3] w fun e w' => e = .returned (.bool true) ∧ Below w.heap.size w w' := by
  have HT := Lib.hid hT
  clear hT
  have H1 := Lib.hid h1
  clear h1
  have H2 := Lib.hid h2
  clear h2
  have H3 := Lib.hid h3
  clear h3
  have HL := Lib.hid hl
  clear hl
  have HM := Lib.hid hm
  clear hm
  have HC := Lib.hid hc
  clear hc
  have HD := Lib.hid hd
  clear hd
  have HX := Lib.hid hx
  clear hx
  have HY := Lib.hid hy
  clear hy
  have st0 := St3.new w k1 n1 s1 k1 n2 s2 k3 n3 s3
  go_enter Tryd.func5, Tryd.ntmps5
  go_wp2_with fail
  refine (alive_any _ (HT.out.below st0.2.2.2)).mono ?_
  rintro e w1 ⟨rfl, b1⟩
  have st1 := st0.step b1
  clear st0
  obtain ⟨⟨a0, a1, a2, a3⟩, ⟨d0, d1, d2, d3⟩, ⟨g0, g1, g2, g3⟩, B1⟩ := id st1
  go_wp2_with fail
  refine (Long_is _ _ _ _ H1.out _).mono ?_
  rintro e w2 ⟨rfl, b2⟩
  have st2 := st1.step b2
  clear a0 a1 a2 a3 d0 d1 d2 d3 g0 g1 g2 g3
  obtain ⟨⟨a0, a1, a2, a3⟩, ⟨d0, d1, d2, d3⟩, ⟨g0, g1, g2, g3⟩, B2⟩ := id st2
  go_wp2_with fail
  refine (Long_is _ _ _ _ H2.out _).mono ?_
  rintro e w3 ⟨rfl, b3⟩
  have st3 := st2.step b3
  clear a0 a1 a2 a3 d0 d1 d2 d3 g0 g1 g2 g3
  obtain ⟨⟨a0, a1, a2, a3⟩, ⟨d0, d1, d2, d3⟩, ⟨g0, g1, g2, g3⟩, B3⟩ := id st3
  go_wp2_with fail
  refine (Long_is _ _ _ _ H3.out _).mono ?_
  rintro e w4 ⟨rfl, b4⟩
  have st4 := st3.step b4
  clear a0 a1 a2 a3 d0 d1 d2 d3 g0 g1 g2 g3
  obtain ⟨⟨a0, a1, a2, a3⟩, ⟨d0, d1, d2, d3⟩, ⟨g0, g1, g2, g3⟩, B4⟩ := id st4
  go_wp2_with fail
  refine (Less_is _ _ _ _ _ _ _ HL.out _).mono ?_
  rintro e w5 ⟨rfl, b5⟩
  have st5 := st4.step b5
  clear a0 a1 a2 a3 d0 d1 d2 d3 g0 g1 g2 g3
  obtain ⟨⟨a0, a1, a2, a3⟩, ⟨d0, d1, d2, d3⟩, ⟨g0, g1, g2, g3⟩, B5⟩ := id st5
  go_wp2_with fail
  refine (Less_is _ _ _ _ _ _ _ HM.out _).mono ?_
  rintro e w6 ⟨rfl, b6⟩
  have st6 := st5.step b6
  clear a0 a1 a2 a3 d0 d1 d2 d3 g0 g1 g2 g3
  obtain ⟨⟨a0, a1, a2, a3⟩, ⟨d0, d1, d2, d3⟩, ⟨g0, g1, g2, g3⟩, B6⟩ := id st6
  go_wp2_with fail
  refine (Compare_is _ _ _ _ _ _ _ HC.out _).mono ?_
  rintro e w7 ⟨rfl, b7⟩
  have st7 := st6.step b7
  clear a0 a1 a2 a3 d0 d1 d2 d3 g0 g1 g2 g3
  obtain ⟨⟨a0, a1, a2, a3⟩, ⟨d0, d1, d2, d3⟩, ⟨g0, g1, g2, g3⟩, B7⟩ := id st7
  go_wp2_with fail
  refine (Compare_is _ _ _ _ _ _ _ HD.out _).mono ?_
  rintro e w8 ⟨rfl, b8⟩
  have st8 := st7.step b8
  clear a0 a1 a2 a3 d0 d1 d2 d3 g0 g1 g2 g3
  obtain ⟨⟨a0, a1, a2, a3⟩, ⟨d0, d1, d2, d3⟩, ⟨g0, g1, g2, g3⟩, B8⟩ := id st8
  go_wp2_with fail
  refine (Compare_is _ _ _ _ _ _ _ HC.out _).mono ?_
  rintro e w9 ⟨rfl, b9⟩
  have st9 := st8.step b9
  clear a0 a1 a2 a3 d0 d1 d2 d3 g0 g1 g2 g3
  obtain ⟨⟨a0, a1, a2, a3⟩, ⟨d0, d1, d2, d3⟩, ⟨g0, g1, g2, g3⟩, B9⟩ := id st9
  go_wp2_with fail
  refine (Compare_is _ _ _ _ _ _ _ HX.out _).mono ?_
  rintro e w10 ⟨rfl, b10⟩
  have st10 := st9.step b10
  clear a0 a1 a2 a3 d0 d1 d2 d3 g0 g1 g2 g3
  obtain ⟨⟨a0, a1, a2, a3⟩, ⟨d0, d1, d2, d3⟩, ⟨g0, g1, g2, g3⟩, B10⟩ := id st10
  go_wp2_with fail
  refine (Compare_is _ _ _ _ _ _ _ HY.out _).mono ?_
  rintro e w11 ⟨rfl, b11⟩
  have st11 := st10.step b11
  clear a0 a1 a2 a3 d0 d1 d2 d3 g0 g1 g2 g3
  obtain ⟨⟨a0, a1, a2, a3⟩, ⟨d0, d1, d2, d3⟩, ⟨g0, g1, g2, g3⟩, B11⟩ := id st11
  go_wp2
  go_ret
  exact ⟨rfl, B11⟩

set_option maxHeartbeats 2000000 in
theorem orders_bsmore (k1 n1 : Int) (s1 : ByteArray) (s2 : ByteArray) (k3 n3 : Int) (s3 : ByteArray) (w : World) (hT : Tab w)
    (h1 : isLong s1 = false) (h2 : isLong s2 = false) (h3 : isLong s3 = false) (hne : ¬ s1.toList = s2.toList) (hl : lessV k1 n1 s1 k1 n1 s2 = true) (hm : lessV k1 n1 s2 k1 n1 s1 = false) (hc : cmpV k1 n1 s1 k1 n1 s2 = -1) (hd : cmpV k1 n1 s2 k1 n1 s1 = 1) (r2 : Int) (hr : 0 < r2) (hx : cmpV k1 n1 s2 k3 n3 s3 = r2) :
    Calls Tryd.prog 5 #[vv k1 n1 s1, vv k1 n1 s2, vv k3 n3 s3] w fun e w' => e = .returned (.bool true) ∧ Below w.heap.size w w' := by
  have HT := Lib.hid hT
  clear hT
  have H1 := Lib.hid h1
  clear h1
  have H2 := Lib.hid h2
  clear h2
  have H3 := Lib.hid h3
  clear h3
  have HL := Lib.hid hl
  clear hl
  have HM := Lib.hid hm
  clear hm
  have HC := Lib.hid hc
  clear hc
  have HD := Lib.hid hd
  clear hd
  have HX := Lib.hid hx
  clear hx
  have st0 := St3.new w k1 n1 s1 k1 n1 s2 k3 n3 s3
  go_enter Tryd.func5, Tryd.ntmps5
  go_wp2_with fail
  refine (alive_any _ (HT.out.below st0.2.2.2)).mono ?_
  rintro e w1 ⟨rfl, b1⟩
  have st1 := st0.step b1
  clear st0
  obtain ⟨⟨a0, a1, a2, a3⟩, ⟨d0, d1, d2, d3⟩, ⟨g0, g1, g2, g3⟩, B1⟩ := id st1
  go_wp2_with fail
  refine (Long_is _ _ _ _ H1.out _).mono ?_
  rintro e w2 ⟨rfl, b2⟩
  have st2 := st1.step b2
  clear a0 a1 a2 a3 d0 d1 d2 d3 g0 g1 g2 g3
  obtain ⟨⟨a0, a1, a2, a3⟩, ⟨d0, d1, d2, d3⟩, ⟨g0, g1, g2, g3⟩, B2⟩ := id st2
  go_wp2_with fail
  refine (Long_is _ _ _ _ H2.out _).mono ?_
  rintro e w3 ⟨rfl, b3⟩
  have st3 := st2.step b3
  clear a0 a1 a2 a3 d0 d1 d2 d3 g0 g1 g2 g3
  obtain ⟨⟨a0, a1, a2, a3⟩, ⟨d0, d1, d2, d3⟩, ⟨g0, g1, g2, g3⟩, B3⟩ := id st3
  go_wp2_with fail
  refine (Long_is _ _ _ _ H3.out _).mono ?_
  rintro e w4 ⟨rfl, b4⟩
  have st4 := st3.step b4
  clear a0 a1 a2 a3 d0 d1 d2 d3 g0 g1 g2 g3
  obtain ⟨⟨a0, a1, a2, a3⟩, ⟨d0, d1, d2, d3⟩, ⟨g0, g1, g2, g3⟩, B4⟩ := id st4
  go_wp2_with fail
  refine (Less_is _ _ _ _ _ _ _ HL.out _).mono ?_
  rintro e w5 ⟨rfl, b5⟩
  have st5 := st4.step b5
  clear a0 a1 a2 a3 d0 d1 d2 d3 g0 g1 g2 g3
  obtain ⟨⟨a0, a1, a2, a3⟩, ⟨d0, d1, d2, d3⟩, ⟨g0, g1, g2, g3⟩, B5⟩ := id st5
  go_wp2_with fail
  refine (Less_is _ _ _ _ _ _ _ HM.out _).mono ?_
  rintro e w6 ⟨rfl, b6⟩
  have st6 := st5.step b6
  clear a0 a1 a2 a3 d0 d1 d2 d3 g0 g1 g2 g3
  obtain ⟨⟨a0, a1, a2, a3⟩, ⟨d0, d1, d2, d3⟩, ⟨g0, g1, g2, g3⟩, B6⟩ := id st6
  go_wp2_with fail
  refine (Compare_is _ _ _ _ _ _ _ HC.out _).mono ?_
  rintro e w7 ⟨rfl, b7⟩
  have st7 := st6.step b7
  clear a0 a1 a2 a3 d0 d1 d2 d3 g0 g1 g2 g3
  obtain ⟨⟨a0, a1, a2, a3⟩, ⟨d0, d1, d2, d3⟩, ⟨g0, g1, g2, g3⟩, B7⟩ := id st7
  go_wp2_with fail
  refine (Compare_is _ _ _ _ _ _ _ HD.out _).mono ?_
  rintro e w8 ⟨rfl, b8⟩
  have st8 := st7.step b8
  clear a0 a1 a2 a3 d0 d1 d2 d3 g0 g1 g2 g3
  obtain ⟨⟨a0, a1, a2, a3⟩, ⟨d0, d1, d2, d3⟩, ⟨g0, g1, g2, g3⟩, B8⟩ := id st8
  go_wp2_with fail
  refine (Compare_is _ _ _ _ _ _ _ HC.out _).mono ?_
  rintro e w9 ⟨rfl, b9⟩
  have st9 := st8.step b9
  clear a0 a1 a2 a3 d0 d1 d2 d3 g0 g1 g2 g3
  obtain ⟨⟨a0, a1, a2, a3⟩, ⟨d0, d1, d2, d3⟩, ⟨g0, g1, g2, g3⟩, B9⟩ := id st9
  go_wp2_with fail
  refine (Compare_is _ _ _ _ _ _ _ HX.out _).mono ?_
  rintro e w10 ⟨rfl, b10⟩
  have st10 := st9.step b10
  clear a0 a1 a2 a3 d0 d1 d2 d3 g0 g1 g2 g3
  obtain ⟨⟨a0, a1, a2, a3⟩, ⟨d0, d1, d2, d3⟩, ⟨g0, g1, g2, g3⟩, B10⟩ := id st10
  go_wp2
  go_ret
  exact ⟨rfl, B10⟩

set_option maxHeartbeats 2000000 in
theorem orders_bsless (k1 n1 : Int) (s1 : ByteArray) (s2 : ByteArray) (k3 n3 : Int) (s3 : ByteArray) (w : World) (hT : Tab w)
    (h1 : isLong s1 = false) (h2 : isLong s2 = false) (h3 : isLong s3 = false) (hne : ¬ s1.toList = s2.toList) (hl : lessV k1 n1 s1 k1 n1 s2 = true) (hm : lessV k1 n1 s2 k1 n1 s1 = false) (hc : cmpV k1 n1 s1 k1 n1 s2 = -1) (hd : cmpV k1 n1 s2 k1 n1 s1 = 1) (r2 r3 : Int) (hr : r2 ≤ 0) (hs : r3 ≤ 0) (hx : cmpV k1 n1 s2 k3 n3 s3 = r2) (hy : cmpV k1 n1 s1 k3 n3 s3 = r3) :
    Calls Tryd.prog 5 #[vv k1 n1 s1, vv k1 n1 s2, vv k3 n3 s3] w fun e w' => e = .returned (.bool true) ∧ Below w.heap.size w w' := by
  have HT := Lib.hid hT
  clear hT
  have H1 := Lib.hid h1
  clear h1
  have H2 := Lib.hid h2
  clear h2
  have H3 := Lib.hid h3
  clear h3
  have HL := Lib.hid hl
  clear hl
  have HM := Lib.hid hm
  clear hm
  have HC := Lib.hid hc
  clear hc
  have HD := Lib.hid hd
  clear hd
  have HX := Lib.hid hx
  clear hx
  have HY := Lib.hid hy
  clear hy
  have st0 := St3.new w k1 n1 s1 k1 n1 s2 k3 n3 s3
  go_enter Tryd.func5, Tryd.ntmps5
  go_wp2_with fail
  refine (alive_any _ (HT.out.below st0.2.2.2)).mono ?_
  rintro e w1 ⟨rfl, b1⟩
  have st1 := st0.step b1
  clear st0
  obtain ⟨⟨a0, a1, a2, a3⟩, ⟨d0, d1, d2, d3⟩, ⟨g0, g1, g2, g3⟩, B1⟩ := id st1
  go_wp2_with fail
  refine (Long_is _ _ _ _ H1.out _).mono ?_
  rintro e w2 ⟨rfl, b2⟩
  have st2 := st1.step b2
  clear a0 a1 a2 a3 d0 d1 d2 d3 g0 g1 g2 g3
  obtain ⟨⟨a0, a1, a2, a3⟩, ⟨d0, d1, d2, d3⟩, ⟨g0, g1, g2, g3⟩, B2⟩ := id st2
  go_wp2_with fail
  refine (Long_is _ _ _ _ H2.out _).mono ?_
  rintro e w3 ⟨rfl, b3⟩
  have st3 := st2.step b3
  clear a0 a1 a2 a3 d0 d1 d2 d3 g0 g1 g2 g3
  obtain ⟨⟨a0, a1, a2, a3⟩, ⟨d0, d1, d2, d3⟩, ⟨g0, g1, g2, g3⟩, B3⟩ := id st3
  go_wp2_with fail
  refine (Long_is _ _ _ _ H3.out _).mono ?_
  rintro e w4 ⟨rfl, b4⟩
  have st4 := st3.step b4
  clear a0 a1 a2 a3 d0 d1 d2 d3 g0 g1 g2 g3
  obtain ⟨⟨a0, a1, a2, a3⟩, ⟨d0, d1, d2, d3⟩, ⟨g0, g1, g2, g3⟩, B4⟩ := id st4
  go_wp2_with fail
  refine (Less_is _ _ _ _ _ _ _ HL.out _).mono ?_
  rintro e w5 ⟨rfl, b5⟩
  have st5 := st4.step b5
  clear a0 a1 a2 a3 d0 d1 d2 d3 g0 g1 g2 g3
  obtain ⟨⟨a0, a1, a2, a3⟩, ⟨d0, d1, d2, d3⟩, ⟨g0, g1, g2, g3⟩, B5⟩ := id st5
  go_wp2_with fail
  refine (Less_is _ _ _ _ _ _ _ HM.out _).mono ?_
  rintro e w6 ⟨rfl, b6⟩
  have st6 := st5.step b6
  clear a0 a1 a2 a3 d0 d1 d2 d3 g0 g1 g2 g3
  obtain ⟨⟨a0, a1, a2, a3⟩, ⟨d0, d1, d2, d3⟩, ⟨g0, g1, g2, g3⟩, B6⟩ := id st6
  go_wp2_with fail
  refine (Compare_is _ _ _ _ _ _ _ HC.out _).mono ?_
  rintro e w7 ⟨rfl, b7⟩
  have st7 := st6.step b7
  clear a0 a1 a2 a3 d0 d1 d2 d3 g0 g1 g2 g3
  obtain ⟨⟨a0, a1, a2, a3⟩, ⟨d0, d1, d2, d3⟩, ⟨g0, g1, g2, g3⟩, B7⟩ := id st7
  go_wp2_with fail
  refine (Compare_is _ _ _ _ _ _ _ HD.out _).mono ?_
  rintro e w8 ⟨rfl, b8⟩
  have st8 := st7.step b8
  clear a0 a1 a2 a3 d0 d1 d2 d3 g0 g1 g2 g3
  obtain ⟨⟨a0, a1, a2, a3⟩, ⟨d0, d1, d2, d3⟩, ⟨g0, g1, g2, g3⟩, B8⟩ := id st8
  go_wp2_with fail
  refine (Compare_is _ _ _ _ _ _ _ HC.out _).mono ?_
  rintro e w9 ⟨rfl, b9⟩
  have st9 := st8.step b9
  clear a0 a1 a2 a3 d0 d1 d2 d3 g0 g1 g2 g3
  obtain ⟨⟨a0, a1, a2, a3⟩, ⟨d0, d1, d2, d3⟩, ⟨g0, g1, g2, g3⟩, B9⟩ := id st9
  go_wp2_with fail
  refine (Compare_is _ _ _ _ _ _ _ HX.out _).mono ?_
  rintro e w10 ⟨rfl, b10⟩
  have st10 := st9.step b10
  clear a0 a1 a2 a3 d0 d1 d2 d3 g0 g1 g2 g3
  obtain ⟨⟨a0, a1, a2, a3⟩, ⟨d0, d1, d2, d3⟩, ⟨g0, g1, g2, g3⟩, B10⟩ := id st10
  go_wp2_with fail
  refine (Compare_is _ _ _ _ _ _ _ HY.out _).mono ?_
  rintro e w11 ⟨rfl, b11⟩
  have st11 := st10.step b11
  clear a0 a1 a2 a3 d0 d1 d2 d3 g0 g1 g2 g3
  obtain ⟨⟨a0, a1, a2, a3⟩, ⟨d0, d1, d2, d3⟩, ⟨g0, g1, g2, g3⟩, B11⟩ := id st11
  go_wp2
  go_ret
  exact ⟨rfl, B11⟩

set_option maxHeartbeats 2000000 in
theorem orders_ak (k1 n1 : Int) (s1 : ByteArray) (k2 : Int) (n2 : Int) (s2 : ByteArray) (k3 n3 : Int) (s3 : ByteArray) (w : World) (hT : Tab w)
    (h1 : isLong s1 = false) (h2 : isLong s2 = false) (h3 : isLong s3 = false) (hne : ¬ k1 = k2) (hl : lessV k1 n1 s1 k2 n2 s2 = false) (hm : lessV k2 n2 s2 k1 n1 s1 = true) (hc : cmpV k1 n1 s1 k2 n2 s2 = 1) (hd : cmpV k2 n2 s2 k1 n1 s1 = -1) :
    Calls Tryd.prog 5 #[vv k1 n1 s1, vv k2 n2 s2, vv k3 n3 s3] w fun e w' => e = .returned (.bool true) ∧ Below w.heap.size w w' := by
  have HT := Lib.hid hT
  clear hT
  have H1 := Lib.hid h1
  clear h1
  have H2 := Lib.hid h2
  clear h2
  have H3 := Lib.hid h3
  clear h3
  have HL := Lib.hid hl
  clear hl
  have HM := Lib.hid hm
  clear hm
  have HC := Lib.hid hc
  clear hc
  have HD := Lib.hid hd
  clear hd
  have st0 := St3.new w k1 n1 s1 k2 n2 s2 k3 n3 s3
  go_enter Tryd.func5, Tryd.ntmps5
  go_wp2_with fail
  refine (alive_any _ (HT.out.below st0.2.2.2)).mono ?_
  rintro e w1 ⟨rfl, b1⟩
  have st1 := st0.step b1
  clear st0
  obtain ⟨⟨a0, a1, a2, a3⟩, ⟨d0, d1, d2, d3⟩, ⟨g0, g1, g2, g3⟩, B1⟩ := id st1
  go_wp2_with fail
  refine (Long_is _ _ _ _ H1.out _).mono ?_
  rintro e w2 ⟨rfl, b2⟩
  have st2 := st1.step b2
  clear a0 a1 a2 a3 d0 d1 d2 d3 g0 g1 g2 g3
  obtain ⟨⟨a0, a1, a2, a3⟩, ⟨d0, d1, d2, d3⟩, ⟨g0, g1, g2, g3⟩, B2⟩ := id st2
  go_wp2_with fail
  refine (Long_is _ _ _ _ H2.out _).mono ?_
  rintro e w3 ⟨rfl, b3⟩
  have st3 := st2.step b3
  clear a0 a1 a2 a3 d0 d1 d2 d3 g0 g1 g2 g3
  obtain ⟨⟨a0, a1, a2, a3⟩, ⟨d0, d1, d2, d3⟩, ⟨g0, g1, g2, g3⟩, B3⟩ := id st3
  go_wp2_with fail
  refine (Long_is _ _ _ _ H3.out _).mono ?_
  rintro e w4 ⟨rfl, b4⟩
  have st4 := st3.step b4
  clear a0 a1 a2 a3 d0 d1 d2 d3 g0 g1 g2 g3
  obtain ⟨⟨a0, a1, a2, a3⟩, ⟨d0, d1, d2, d3⟩, ⟨g0, g1, g2, g3⟩, B4⟩ := id st4
  go_wp2_with fail
  refine (Less_is _ _ _ _ _ _ _ HL.out _).mono ?_
  rintro e w5 ⟨rfl, b5⟩
  have st5 := st4.step b5
  clear a0 a1 a2 a3 d0 d1 d2 d3 g0 g1 g2 g3
  obtain ⟨⟨a0, a1, a2, a3⟩, ⟨d0, d1, d2, d3⟩, ⟨g0, g1, g2, g3⟩, B5⟩ := id st5
  go_wp2_with fail
  refine (Less_is _ _ _ _ _ _ _ HM.out _).mono ?_
  rintro e w6 ⟨rfl, b6⟩
  have st6 := st5.step b6
  clear a0 a1 a2 a3 d0 d1 d2 d3 g0 g1 g2 g3
  obtain ⟨⟨a0, a1, a2, a3⟩, ⟨d0, d1, d2, d3⟩, ⟨g0, g1, g2, g3⟩, B6⟩ := id st6
  go_wp2_with fail
  refine (Compare_is _ _ _ _ _ _ _ HC.out _).mono ?_
  rintro e w7 ⟨rfl, b7⟩
  have st7 := st6.step b7
  clear a0 a1 a2 a3 d0 d1 d2 d3 g0 g1 g2 g3
  obtain ⟨⟨a0, a1, a2, a3⟩, ⟨d0, d1, d2, d3⟩, ⟨g0, g1, g2, g3⟩, B7⟩ := id st7
  go_wp2_with fail
  refine (Compare_is _ _ _ _ _ _ _ HD.out _).mono ?_
  rintro e w8 ⟨rfl, b8⟩
  have st8 := st7.step b8
  clear a0 a1 a2 a3 d0 d1 d2 d3 g0 g1 g2 g3
  obtain ⟨⟨a0, a1, a2, a3⟩, ⟨d0, d1, d2, d3⟩, ⟨g0, g1, g2, g3⟩, B8⟩ := id st8
  go_wp2_with fail
  refine (Compare_is _ _ _ _ _ _ _ HC.out _).mono ?_
  rintro e w9 ⟨rfl, b9⟩
  have st9 := st8.step b9
  clear a0 a1 a2 a3 d0 d1 d2 d3 g0 g1 g2 g3
  obtain ⟨⟨a0, a1, a2, a3⟩, ⟨d0, d1, d2, d3⟩, ⟨g0, g1, g2, g3⟩, B9⟩ := id st9
  go_wp2
  go_ret
  exact ⟨rfl, B9⟩

set_option maxHeartbeats 2000000 in
theorem orders_an (k1 n1 : Int) (s1 : ByteArray) (n2 : Int) (s2 : ByteArray) (k3 n3 : Int) (s3 : ByteArray) (w : World) (hT : Tab w)
    (h1 : isLong s1 = false) (h2 : isLong s2 = false) (h3 : isLong s3 = false) (hne : ¬ n1 = n2) (hl : lessV k1 n1 s1 k1 n2 s2 = false) (hm : lessV k1 n2 s2 k1 n1 s1 = true) (hc : cmpV k1 n1 s1 k1 n2 s2 = 1) (hd : cmpV k1 n2 s2 k1 n1 s1 = -1) :
    Calls Tryd.prog 5 #[vv k1 n1 s1, vv k1 n2 s2, vv k3 n3 s3] w fun e w' => e = .returned (.bool true) ∧ Below w.heap.size w w' := by
  have HT := Lib.hid hT
  clear hT
  have H1 := Lib.hid h1
  clear h1
  have H2 := Lib.hid h2
  clear h2
  have H3 := Lib.hid h3
  clear h3
  have HL := Lib.hid hl
  clear hl
  have HM := Lib.hid hm
  clear hm
  have HC := Lib.hid hc
  clear hc
  have HD := Lib.hid hd
  clear hd
  have st0 := St3.new w k1 n1 s1 k1 n2 s2 k3 n3 s3
  go_enter Tryd.func5, Tryd.ntmps5
  go_wp2_with fail
  refine (alive_any _ (HT.out.below st0.2.2.2)).mono ?_
  rintro e w1 ⟨rfl, b1⟩
  have st1 := st0.step b1
  clear st0
  obtain ⟨⟨a0, a1, a2, a3⟩, ⟨d0, d1, d2, d3⟩, ⟨g0, g1, g2, g3⟩, B1⟩ := id st1
  go_wp2_with fail
  refine (Long_is _ _ _ _ H1.out _).mono ?_
  rintro e w2 ⟨rfl, b2⟩
  have st2 := st1.step b2
  clear a0 a1 a2 a3 d0 d1 d2 d3 g0 g1 g2 g3
  obtain ⟨⟨a0, a1, a2, a3⟩, ⟨d0, d1, d2, d3⟩, ⟨g0, g1, g2, g3⟩, B2⟩ := id st2
  go_wp2_with fail
  refine (Long_is _ _ _ _ H2.out _).mono ?_
  rintro e w3 ⟨rfl, b3⟩
  have st3 := st2.step b3
  clear a0 a1 a2 a3 d0 d1 d2 d3 g0 g1 g2 g3
  obtain ⟨⟨a0, a1, a2, a3⟩, ⟨d0, d1, d2, d3⟩, ⟨g0, g1, g2, g3⟩, B3⟩ := id st3
  go_wp2_with fail
  refine (Long_is _ _ _ _ H3.out _).mono ?_
  rintro e w4 ⟨rfl, b4⟩
  have st4 := st3.step b4
  clear a0 a1 a2 a3 d0 d1 d2 d3 g0 g1 g2 g3
  obtain ⟨⟨a0, a1, a2, a3⟩, ⟨d0, d1, d2, d3⟩, ⟨g0, g1, g2, g3⟩, B4⟩ := id st4
  go_wp2_with fail
  refine (Less_is _ _ _ _ _ _ _ HL.out _).mono ?_
  rintro e w5 ⟨rfl, b5⟩
  have st5 := st4.step b5
  clear a0 a1 a2 a3 d0 d1 d2 d3 g0 g1 g2 g3
  obtain ⟨⟨a0, a1, a2, a3⟩, ⟨d0, d1, d2, d3⟩, ⟨g0, g1, g2, g3⟩, B5⟩ := id st5
  go_wp2_with fail
  refine (Less_is _ _ _ _ _ _ _ HM.out _).mono ?_
  rintro e w6 ⟨rfl, b6⟩
  have st6 := st5.step b6
  clear a0 a1 a2 a3 d0 d1 d2 d3 g0 g1 g2 g3
  obtain ⟨⟨a0, a1, a2, a3⟩, ⟨d0, d1, d2, d3⟩, ⟨g0, g1, g2, g3⟩, B6⟩ := id st6
  go_wp2_with fail
  refine (Compare_is _ _ _ _ _ _ _ HC.out _).mono ?_
  rintro e w7 ⟨rfl, b7⟩
  have st7 := st6.step b7
  clear a0 a1 a2 a3 d0 d1 d2 d3 g0 g1 g2 g3
  obtain ⟨⟨a0, a1, a2, a3⟩, ⟨d0, d1, d2, d3⟩, ⟨g0, g1, g2, g3⟩, B7⟩ := id st7
  go_wp2_with fail
  refine (Compare_is _ _ _ _ _ _ _ HD.out _).mono ?_
  rintro e w8 ⟨rfl, b8⟩
  have st8 := st7.step b8
  clear a0 a1 a2 a3 d0 d1 d2 d3 g0 g1 g2 g3
  obtain ⟨⟨a0, a1, a2, a3⟩, ⟨d0, d1, d2, d3⟩, ⟨g0, g1, g2, g3⟩, B8⟩ := id st8
  go_wp2_with fail
  refine (Compare_is _ _ _ _ _ _ _ HC.out _).mono ?_
  rintro e w9 ⟨rfl, b9⟩
  have st9 := st8.step b9
  clear a0 a1 a2 a3 d0 d1 d2 d3 g0 g1 g2 g3
  obtain ⟨⟨a0, a1, a2, a3⟩, ⟨d0, d1, d2, d3⟩, ⟨g0, g1, g2, g3⟩, B9⟩ := id st9
  go_wp2
  go_ret
  exact ⟨rfl, B9⟩

set_option maxHeartbeats 2000000 in
theorem orders_as (k1 n1 : Int) (s1 : ByteArray) (s2 : ByteArray) (k3 n3 : Int) (s3 : ByteArray) (w : World) (hT : Tab w)
    (h1 : isLong s1 = false) (h2 : isLong s2 = false) (h3 : isLong s3 = false) (hne : ¬ s1.toList = s2.toList) (hl : lessV k1 n1 s1 k1 n1 s2 = false) (hm : lessV k1 n1 s2 k1 n1 s1 = true) (hc : cmpV k1 n1 s1 k1 n1 s2 = 1) (hd : cmpV k1 n1 s2 k1 n1 s1 = -1) :
    Calls Tryd.prog 5 #[vv k1 n1 s1, vv k1 n1 s2, vv k3 n3 s3] w fun e w' => e = .returned (.bool true) ∧ Below w.heap.size w w' := by
  have HT := Lib.hid hT
  clear hT
  have H1 := Lib.hid h1
  clear h1
  have H2 := Lib.hid h2
  clear h2
  have H3 := Lib.hid h3
  clear h3
  have HL := Lib.hid hl
  clear hl
  have HM := Lib.hid hm
  clear hm
  have HC := Lib.hid hc
  clear hc
  have HD := Lib.hid hd
  clear hd
  have st0 := St3.new w k1 n1 s1 k1 n1 s2 k3 n3 s3
  go_enter Tryd.func5, Tryd.ntmps5
  go_wp2_with fail
  refine (alive_any _ (HT.out.below st0.2.2.2)).mono ?_
  rintro e w1 ⟨rfl, b1⟩
  have st1 := st0.step b1
  clear st0
  obtain ⟨⟨a0, a1, a2, a3⟩, ⟨d0, d1, d2, d3⟩, ⟨g0, g1, g2, g3⟩, B1⟩ := id st1
  go_wp2_with fail
  refine (Long_is _ _ _ _ H1.out _).mono ?_
  rintro e w2 ⟨rfl, b2⟩
  have st2 := st1.step b2
  clear a0 a1 a2 a3 d0 d1 d2 d3 g0 g1 g2 g3
  obtain ⟨⟨a0, a1, a2, a3⟩, ⟨d0, d1, d2, d3⟩, ⟨g0, g1, g2, g3⟩, B2⟩ := id st2
  go_wp2_with fail
  refine (Long_is _ _ _ _ H2.out _).mono ?_
  rintro e w3 ⟨rfl, b3⟩
  have st3 := st2.step b3
  clear a0 a1 a2 a3 d0 d1 d2 d3 g0 g1 g2 g3
  obtain ⟨⟨a0, a1, a2, a3⟩, ⟨d0, d1, d2, d3⟩, ⟨g0, g1, g2, g3⟩, B3⟩ := id st3
  go_wp2_with fail
  refine (Long_is _ _ _ _ H3.out _).mono ?_
  rintro e w4 ⟨rfl, b4⟩
  have st4 := st3.step b4
  clear a0 a1 a2 a3 d0 d1 d2 d3 g0 g1 g2 g3
  obtain ⟨⟨a0, a1, a2, a3⟩, ⟨d0, d1, d2, d3⟩, ⟨g0, g1, g2, g3⟩, B4⟩ := id st4
  go_wp2_with fail
  refine (Less_is _ _ _ _ _ _ _ HL.out _).mono ?_
  rintro e w5 ⟨rfl, b5⟩
  have st5 := st4.step b5
  clear a0 a1 a2 a3 d0 d1 d2 d3 g0 g1 g2 g3
  obtain ⟨⟨a0, a1, a2, a3⟩, ⟨d0, d1, d2, d3⟩, ⟨g0, g1, g2, g3⟩, B5⟩ := id st5
  go_wp2_with fail
  refine (Less_is _ _ _ _ _ _ _ HM.out _).mono ?_
  rintro e w6 ⟨rfl, b6⟩
  have st6 := st5.step b6
  clear a0 a1 a2 a3 d0 d1 d2 d3 g0 g1 g2 g3
  obtain ⟨⟨a0, a1, a2, a3⟩, ⟨d0, d1, d2, d3⟩, ⟨g0, g1, g2, g3⟩, B6⟩ := id st6
  go_wp2_with fail
  refine (Compare_is _ _ _ _ _ _ _ HC.out _).mono ?_
  rintro e w7 ⟨rfl, b7⟩
  have st7 := st6.step b7
  clear a0 a1 a2 a3 d0 d1 d2 d3 g0 g1 g2 g3
  obtain ⟨⟨a0, a1, a2, a3⟩, ⟨d0, d1, d2, d3⟩, ⟨g0, g1, g2, g3⟩, B7⟩ := id st7
  go_wp2_with fail
  refine (Compare_is _ _ _ _ _ _ _ HD.out _).mono ?_
  rintro e w8 ⟨rfl, b8⟩
  have st8 := st7.step b8
  clear a0 a1 a2 a3 d0 d1 d2 d3 g0 g1 g2 g3
  obtain ⟨⟨a0, a1, a2, a3⟩, ⟨d0, d1, d2, d3⟩, ⟨g0, g1, g2, g3⟩, B8⟩ := id st8
  go_wp2_with fail
  refine (Compare_is _ _ _ _ _ _ _ HC.out _).mono ?_
  rintro e w9 ⟨rfl, b9⟩
  have st9 := st8.step b9
  clear a0 a1 a2 a3 d0 d1 d2 d3 g0 g1 g2 g3
  obtain ⟨⟨a0, a1, a2, a3⟩, ⟨d0, d1, d2, d3⟩, ⟨g0, g1, g2, g3⟩, B9⟩ := id st9
  go_wp2
  go_ret
  exact ⟨rfl, B9⟩

set_option maxHeartbeats 2000000 in
theorem orders_emore (k1 n1 : Int) (s1 : ByteArray) (k3 n3 : Int) (s3 : ByteArray) (w : World) (hT : Tab w)
    (h1 : isLong s1 = false) (h2 : isLong s1 = false) (h3 : isLong s3 = false) (hl : lessV k1 n1 s1 k1 n1 s1 = false) (hm : lessV k1 n1 s1 k1 n1 s1 = false) (hc : cmpV k1 n1 s1 k1 n1 s1 = 0) (hd : cmpV k1 n1 s1 k1 n1 s1 = 0) (r2 : Int) (hr : 0 < r2) (hx : cmpV k1 n1 s1 k3 n3 s3 = r2) :
    Calls Tryd.prog 5 #[vv k1 n1 s1, vv k1 n1 s1, vv k3 n3 s3] w fun e w' => e = .returned (.bool true) ∧ Below w.heap.size w w' := by
  have HT := Lib.hid hT
  clear hT
  have H1 := Lib.hid h1
  clear h1
  have H2 := Lib.hid h2
  clear h2
  have H3 := Lib.hid h3
  clear h3
  have HL := Lib.hid hl
  clear hl
  have HM := Lib.hid hm
  clear hm
  have HC := Lib.hid hc
  clear hc
  have HD := Lib.hid hd
  clear hd
  have HX := Lib.hid hx
  clear hx
  have st0 := St3.new w k1 n1 s1 k1 n1 s1 k3 n3 s3
  go_enter Tryd.func5, Tryd.ntmps5
  go_wp2_with fail
  refine (alive_any _ (HT.out.below st0.2.2.2)).mono ?_
  rintro e w1 ⟨rfl, b1⟩
  have st1 := st0.step b1
  clear st0
  obtain ⟨⟨a0, a1, a2, a3⟩, ⟨d0, d1, d2, d3⟩, ⟨g0, g1, g2, g3⟩, B1⟩ := id st1
  go_wp2_with fail
  refine (Long_is _ _ _ _ H1.out _).mono ?_
  rintro e w2 ⟨rfl, b2⟩
  have st2 := st1.step b2
  clear a0 a1 a2 a3 d0 d1 d2 d3 g0 g1 g2 g3
  obtain ⟨⟨a0, a1, a2, a3⟩, ⟨d0, d1, d2, d3⟩, ⟨g0, g1, g2, g3⟩, B2⟩ := id st2
  go_wp2_with fail
  refine (Long_is _ _ _ _ H2.out _).mono ?_
  rintro e w3 ⟨rfl, b3⟩
  have st3 := st2.step b3
  clear a0 a1 a2 a3 d0 d1 d2 d3 g0 g1 g2 g3
  obtain ⟨⟨a0, a1, a2, a3⟩, ⟨d0, d1, d2, d3⟩, ⟨g0, g1, g2, g3⟩, B3⟩ := id st3
  go_wp2_with fail
  refine (Long_is _ _ _ _ H3.out _).mono ?_
  rintro e w4 ⟨rfl, b4⟩
  have st4 := st3.step b4
  clear a0 a1 a2 a3 d0 d1 d2 d3 g0 g1 g2 g3
  obtain ⟨⟨a0, a1, a2, a3⟩, ⟨d0, d1, d2, d3⟩, ⟨g0, g1, g2, g3⟩, B4⟩ := id st4
  go_wp2_with fail
  refine (Less_is _ _ _ _ _ _ _ HL.out _).mono ?_
  rintro e w5 ⟨rfl, b5⟩
  have st5 := st4.step b5
  clear a0 a1 a2 a3 d0 d1 d2 d3 g0 g1 g2 g3
  obtain ⟨⟨a0, a1, a2, a3⟩, ⟨d0, d1, d2, d3⟩, ⟨g0, g1, g2, g3⟩, B5⟩ := id st5
  go_wp2_with fail
  refine (Less_is _ _ _ _ _ _ _ HM.out _).mono ?_
  rintro e w6 ⟨rfl, b6⟩
  have st6 := st5.step b6
  clear a0 a1 a2 a3 d0 d1 d2 d3 g0 g1 g2 g3
  obtain ⟨⟨a0, a1, a2, a3⟩, ⟨d0, d1, d2, d3⟩, ⟨g0, g1, g2, g3⟩, B6⟩ := id st6
  go_wp2_with fail
  refine (Compare_is _ _ _ _ _ _ _ HC.out _).mono ?_
  rintro e w7 ⟨rfl, b7⟩
  have st7 := st6.step b7
  clear a0 a1 a2 a3 d0 d1 d2 d3 g0 g1 g2 g3
  obtain ⟨⟨a0, a1, a2, a3⟩, ⟨d0, d1, d2, d3⟩, ⟨g0, g1, g2, g3⟩, B7⟩ := id st7
  go_wp2_with fail
  refine (Compare_is _ _ _ _ _ _ _ HD.out _).mono ?_
  rintro e w8 ⟨rfl, b8⟩
  have st8 := st7.step b8
  clear a0 a1 a2 a3 d0 d1 d2 d3 g0 g1 g2 g3
  obtain ⟨⟨a0, a1, a2, a3⟩, ⟨d0, d1, d2, d3⟩, ⟨g0, g1, g2, g3⟩, B8⟩ := id st8
  go_wp2_with fail
  refine (Compare_is _ _ _ _ _ _ _ HC.out _).mono ?_
  rintro e w9 ⟨rfl, b9⟩
  have st9 := st8.step b9
  clear a0 a1 a2 a3 d0 d1 d2 d3 g0 g1 g2 g3
  obtain ⟨⟨a0, a1, a2, a3⟩, ⟨d0, d1, d2, d3⟩, ⟨g0, g1, g2, g3⟩, B9⟩ := id st9
  go_wp2_with fail
  refine (Compare_is _ _ _ _ _ _ _ HX.out _).mono ?_
  rintro e w10 ⟨rfl, b10⟩
  have st10 := st9.step b10
  clear a0 a1 a2 a3 d0 d1 d2 d3 g0 g1 g2 g3
  obtain ⟨⟨a0, a1, a2, a3⟩, ⟨d0, d1, d2, d3⟩, ⟨g0, g1, g2, g3⟩, B10⟩ := id st10
  go_wp2
  go_ret
  exact ⟨rfl, B10⟩

set_option maxHeartbeats 2000000 in
theorem orders_eless (k1 n1 : Int) (s1 : ByteArray) (k3 n3 : Int) (s3 : ByteArray) (w : World) (hT : Tab w)
    (h1 : isLong s1 = false) (h2 : isLong s1 = false) (h3 : isLong s3 = false) (hl : lessV k1 n1 s1 k1 n1 s1 = false) (hm : lessV k1 n1 s1 k1 n1 s1 = false) (hc : cmpV k1 n1 s1 k1 n1 s1 = 0) (hd : cmpV k1 n1 s1 k1 n1 s1 = 0) (r2 r3 : Int) (hr : r2 ≤ 0) (hs : r3 ≤ 0) (hx : cmpV k1 n1 s1 k3 n3 s3 = r2) (hy : cmpV k1 n1 s1 k3 n3 s3 = r3) :
    Calls Tryd.prog 5 #[vv k1 n1 s1, vv k1 n1 s1, vv k3 n3 s3] w fun e w' => e = .returned (.bool true) ∧ Below w.heap.size w w' := by
  have HT := Lib.hid hT
  clear hT
  have H1 := Lib.hid h1
  clear h1
  have H2 := Lib.hid h2
  clear h2
  have H3 := Lib.hid h3
  clear h3
  have HL := Lib.hid hl
  clear hl
  have HM := Lib.hid hm
  clear hm
  have HC := Lib.hid hc
  clear hc
  have HD := Lib.hid hd
  clear hd
  have HX := Lib.hid hx
  clear hx
  have HY := Lib.hid hy
  clear hy
  have st0 := St3.new w k1 n1 s1 k1 n1 s1 k3 n3 s3
  go_enter Tryd.func5, Tryd.ntmps5
  go_wp2_with fail
  refine (alive_any _ (HT.out.below st0.2.2.2)).mono ?_
  rintro e w1 ⟨rfl, b1⟩
  have st1 := st0.step b1
  clear st0
  obtain ⟨⟨a0, a1, a2, a3⟩, ⟨d0, d1, d2, d3⟩, ⟨g0, g1, g2, g3⟩, B1⟩ := id st1
  go_wp2_with fail
  refine (Long_is _ _ _ _ H1.out _).mono ?_
  rintro e w2 ⟨rfl, b2⟩
  have st2 := st1.step b2
  clear a0 a1 a2 a3 d0 d1 d2 d3 g0 g1 g2 g3
  obtain ⟨⟨a0, a1, a2, a3⟩, ⟨d0, d1, d2, d3⟩, ⟨g0, g1, g2, g3⟩, B2⟩ := id st2
  go_wp2_with fail
  refine (Long_is _ _ _ _ H2.out _).mono ?_
  rintro e w3 ⟨rfl, b3⟩
  have st3 := st2.step b3
  clear a0 a1 a2 a3 d0 d1 d2 d3 g0 g1 g2 g3
  obtain ⟨⟨a0, a1, a2, a3⟩, ⟨d0, d1, d2, d3⟩, ⟨g0, g1, g2, g3⟩, B3⟩ := id st3
  go_wp2_with fail
  refine (Long_is _ _ _ _ H3.out _).mono ?_
  rintro e w4 ⟨rfl, b4⟩
  have st4 := st3.step b4
  clear a0 a1 a2 a3 d0 d1 d2 d3 g0 g1 g2 g3
  obtain ⟨⟨a0, a1, a2, a3⟩, ⟨d0, d1, d2, d3⟩, ⟨g0, g1, g2, g3⟩, B4⟩ := id st4
  go_wp2_with fail
  refine (Less_is _ _ _ _ _ _ _ HL.out _).mono ?_
  rintro e w5 ⟨rfl, b5⟩
  have st5 := st4.step b5
  clear a0 a1 a2 a3 d0 d1 d2 d3 g0 g1 g2 g3
  obtain ⟨⟨a0, a1, a2, a3⟩, ⟨d0, d1, d2, d3⟩, ⟨g0, g1, g2, g3⟩, B5⟩ := id st5
  go_wp2_with fail
  refine (Less_is _ _ _ _ _ _ _ HM.out _).mono ?_
  rintro e w6 ⟨rfl, b6⟩
  have st6 := st5.step b6
  clear a0 a1 a2 a3 d0 d1 d2 d3 g0 g1 g2 g3
  obtain ⟨⟨a0, a1, a2, a3⟩, ⟨d0, d1, d2, d3⟩, ⟨g0, g1, g2, g3⟩, B6⟩ := id st6
  go_wp2_with fail
  refine (Compare_is _ _ _ _ _ _ _ HC.out _).mono ?_
  rintro e w7 ⟨rfl, b7⟩
  have st7 := st6.step b7
  clear a0 a1 a2 a3 d0 d1 d2 d3 g0 g1 g2 g3
  obtain ⟨⟨a0, a1, a2, a3⟩, ⟨d0, d1, d2, d3⟩, ⟨g0, g1, g2, g3⟩, B7⟩ := id st7
  go_wp2_with fail
  refine (Compare_is _ _ _ _ _ _ _ HD.out _).mono ?_
  rintro e w8 ⟨rfl, b8⟩
  have st8 := st7.step b8
  clear a0 a1 a2 a3 d0 d1 d2 d3 g0 g1 g2 g3
  obtain ⟨⟨a0, a1, a2, a3⟩, ⟨d0, d1, d2, d3⟩, ⟨g0, g1, g2, g3⟩, B8⟩ := id st8
  go_wp2_with fail
  refine (Compare_is _ _ _ _ _ _ _ HC.out _).mono ?_
  rintro e w9 ⟨rfl, b9⟩
  have st9 := st8.step b9
  clear a0 a1 a2 a3 d0 d1 d2 d3 g0 g1 g2 g3
  obtain ⟨⟨a0, a1, a2, a3⟩, ⟨d0, d1, d2, d3⟩, ⟨g0, g1, g2, g3⟩, B9⟩ := id st9
  go_wp2_with fail
  refine (Compare_is _ _ _ _ _ _ _ HX.out _).mono ?_
  rintro e w10 ⟨rfl, b10⟩
  have st10 := st9.step b10
  clear a0 a1 a2 a3 d0 d1 d2 d3 g0 g1 g2 g3
  obtain ⟨⟨a0, a1, a2, a3⟩, ⟨d0, d1, d2, d3⟩, ⟨g0, g1, g2, g3⟩, B10⟩ := id st10
  go_wp2_with fail
  refine (Compare_is _ _ _ _ _ _ _ HY.out _).mono ?_
  rintro e w11 ⟨rfl, b11⟩
  have st11 := st10.step b11
  clear a0 a1 a2 a3 d0 d1 d2 d3 g0 g1 g2 g3
  obtain ⟨⟨a0, a1, a2, a3⟩, ⟨d0, d1, d2, d3⟩, ⟨g0, g1, g2, g3⟩, B11⟩ := id st11
  go_wp2
  go_ret
  exact ⟨rfl, B11⟩

theorem orders_walk (k1 n1 : Int) (s1 : ByteArray) (k2 n2 : Int) (s2 : ByteArray) (k3 n3 : Int) (s3 : ByteArray) (w : World) (hT : Tab w) :
    Calls Tryd.prog 5 #[vv k1 n1 s1, vv k2 n2 s2, vv k3 n3 s3] w fun e w' => e = .returned (.bool true) ∧ Below w.heap.size w w' := by
  cases h1 : isLong s1 with
  | true => exact orders_long1 _ _ _ _ _ _ _ _ _ w hT h1
  | false =>
  cases h2 : isLong s2 with
  | true => exact orders_long2 _ _ _ _ _ _ _ _ _ w hT h1 h2
  | false =>
  cases h3 : isLong s3 with
  | true => exact orders_long3 _ _ _ _ _ _ _ _ _ w hT h1 h2 h3
  | false =>
  rcases cmpV_cases k1 n1 s1 k2 n2 s2 with ⟨e, g⟩ | ⟨e, g⟩ | ⟨e, rfl, rfl, rfl⟩
  · have e' := cmpV_of_aft g
    have hl := lessV_true g
    have hm := lessV_false fun x => g.asymm x
    by_cases hx : 0 < cmpV k2 n2 s2 k3 n3 s3
    · by_cases hk : k1 = k2
      · subst hk
        by_cases hn : n1 = n2
        · subst hn
          have hs : ¬ s1.toList = s2.toList := fun h => by obtain rfl := toList_inj h; exact g.irrefl
          exact orders_bsmore _ _ _ _ _ _ _ w hT h1 h2 h3 hs hl hm e e' _ hx rfl
        · exact orders_bnmore _ _ _ _ _ _ _ _ w hT h1 h2 h3 hn hl hm e e' _ hx rfl
      · exact orders_bkmore _ _ _ _ _ _ _ _ _ w hT h1 h2 h3 hk hl hm e e' _ hx rfl
    · have hx' : cmpV k2 n2 s2 k3 n3 s3 ≤ 0 := by omega
      have hy := cmpV_trans (by omega : cmpV k1 n1 s1 k2 n2 s2 ≤ 0) hx'
      by_cases hk : k1 = k2
      · subst hk
        by_cases hn : n1 = n2
        · subst hn
          have hs : ¬ s1.toList = s2.toList := fun h => by obtain rfl := toList_inj h; exact g.irrefl
          exact orders_bsless _ _ _ _ _ _ _ w hT h1 h2 h3 hs hl hm e e' _ _ hx' hy rfl rfl
        · exact orders_bnless _ _ _ _ _ _ _ _ w hT h1 h2 h3 hn hl hm e e' _ _ hx' hy rfl rfl
      · exact orders_bkless _ _ _ _ _ _ _ _ _ w hT h1 h2 h3 hk hl hm e e' _ _ hx' hy rfl rfl
  · have e' := cmpV_of_bef g
    have hl := lessV_false fun x => g.asymm x
    have hm := lessV_true g
    by_cases hk : k1 = k2
    · subst hk
      by_cases hn : n1 = n2
      · subst hn
        have hs : ¬ s1.toList = s2.toList := fun h => by obtain rfl := toList_inj h; exact g.irrefl
        exact orders_as _ _ _ _ _ _ _ w hT h1 h2 h3 hs hl hm e e'
      · exact orders_an _ _ _ _ _ _ _ _ w hT h1 h2 h3 hn hl hm e e'
    · exact orders_ak _ _ _ _ _ _ _ _ _ w hT h1 h2 h3 hk hl hm e e'
  · have hl := lessV_false fun x : Bef k1 n1 s1 k1 n1 s1 => x.irrefl
    by_cases hx : 0 < cmpV k1 n1 s1 k3 n3 s3
    · exact orders_emore _ _ _ _ _ _ w hT h1 h2 h3 hl hl e e _ hx rfl
    · exact orders_eless _ _ _ _ _ _ w hT h1 h2 h3 hl hl e e _ _ (by omega) (by omega) rfl rfl

end Go.Proofs.YtkjgkiogjelcoaaDoor
