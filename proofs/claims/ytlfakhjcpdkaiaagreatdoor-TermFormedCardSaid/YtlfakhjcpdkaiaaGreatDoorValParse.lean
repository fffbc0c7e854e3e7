/- What value.Parse gives, for every text of at most 2^48 bytes: the value that has the text, or the error of form. Conditions: the library's table and its two sentinel errors as their initialisers lay them. -/
import Derived.Test.YtlfakhjcpdkaiaaGreatDoorValText
import Derived.Test.YtlfakhjcpdkaiaaGreatDoorValNum
import Derived.Test.YtlfakhjcpdkaiaaGreatDoorShelfA
import Derived.Lib.AtoiTie
import Derived.Lib.SmallJoins
namespace Go.Proofs.YtlfakhjcpdkaiaaGreatDoor
open Go.RowKit

/-- one variable of an interface type holds some error. -/
def Held (n : String) (w : World) : Prop := ∃ (t : TypeId) (p : Value), World.var? Tryz.prog w n = some #[.iface t p]
theorem Held.below {n : String} {g : Nat} (hg : Tryz.prog.globalNamed n = some g) {w w' : World} (h : Held n w) (hb : Below w.heap.size w w') : Held n w' := by
  obtain ⟨t, p, h⟩ := h
  exact ⟨t, p, var_below hg h hb⟩
theorem gSyn : Tryz.prog.globalNamed "strconv.ErrSyntax" = some 3 := by kernel_rfl
theorem gRng : Tryz.prog.globalNamed "strconv.ErrRange" = some 4 := by kernel_rfl
/-- the table and the two sentinels. -/
def Tabs (w : World) : Prop := Tab w ∧ Held "strconv.ErrSyntax" w ∧ Held "strconv.ErrRange" w
theorem Tabs.below {w w' : World} (h : Tabs w) (hb : Below w.heap.size w w') : Tabs w' := ⟨h.1.below hb, h.2.1.below gSyn hb, h.2.2.below gRng hb⟩

theorem below_bytes (w : World) (e : TypeId) (s : ByteArray) : Below w.heap.size w (Lib.bytesWorld w e s) :=
  Joins.below_bytesWorld w.heap.size w e s (Nat.le_refl _)

theorem Atoi_good (s : ByteArray) (n : Int) (hs : s.size ≤ 281474976710656) (h : Lib.atoiAll s.data.toList = .ok n) (w : World) :
    Calls Tryz.prog 107 #[.string s] w fun e w' => e = .returned (.tuple #[.int .i64 n, .nilIface]) ∧ Below w.heap.size w w' := by
  refine (Tryz.strconv_Atoi_ok s (by omega) n h w).mono fun e w' ⟨he, hw⟩ => ⟨he, ?_⟩
  rcases hw with rfl | ⟨t, rfl⟩
  · exact Below.refl _ _
  · exact below_bytes _ _ _
theorem Atoi_bad (s : ByteArray) (hs : s.size ≤ 281474976710656) (h : ∀ n, Lib.atoiAll s.data.toList ≠ .ok n) (w : World) (hT : Tabs w) :
    Calls Tryz.prog 107 #[.string s] w fun e w' => ∃ n N, e = .returned (.tuple #[.int .i64 n, .iface 175 (.pointer (some ⟨N, 0, none⟩))]) ∧ Below w.heap.size w w' := by
  obtain ⟨_, ⟨t1, p1, v1⟩, ⟨t2, p2, v2⟩⟩ := hT
  rcases hc : Lib.atoiAll s.data.toList with n | _ | _
  · exact absurd hc (h n)
  · exact (Any.strconv_Atoi_syntax_var Tryz.laysC172 s hs hc t1 p1 w v1).mono fun e w' ⟨N, he, _, _, hb⟩ => ⟨_, N, he, hb⟩
  · exact (Any.strconv_Atoi_range_var Tryz.laysC172 s hs hc t2 p2 w v2).mono fun e w' ⟨N, he, _, _, hb⟩ => ⟨_, N, he, hb⟩

theorem below_set3 {W w : World} (h : Below W.heap.size W w) (a b c : Value) :
    Below W.heap.size W (((w.setCell ⟨W.heap.size, 0, none⟩ a).setCell ⟨W.heap.size, 1, none⟩ b).setCell ⟨W.heap.size, 2, none⟩ c) :=
  ((h.setCell (p := ⟨W.heap.size, 0, none⟩) (Nat.le_refl _) a).setCell (p := ⟨W.heap.size, 1, none⟩) (Nat.le_refl _) b).setCell (p := ⟨W.heap.size, 2, none⟩) (Nat.le_refl _) c
theorem free_below {w w1 : World} {c : Array Value} {t : TypeId} (hb : Below (w.alloc (.cells c t)).heap.size (w.alloc (.cells c t)) w1) :
    w1.frozen? ⟨w.heap.size, 0, none⟩ = false ∧ w1.frozen? ⟨w.heap.size, 1, none⟩ = false ∧ w1.frozen? ⟨w.heap.size, 2, none⟩ = false := by
  refine ⟨?_, ?_, ?_⟩ <;> (refine (hb.frozen (by simp)).trans ?_; go_simp)

theorem Free.below {w w' : World} {b : Nat} (h : w.frozen? ⟨b, 0, none⟩ = false ∧ w.frozen? ⟨b, 1, none⟩ = false ∧ w.frozen? ⟨b, 2, none⟩ = false) (hb : Below w.heap.size w w') (hlt : b < w.heap.size) :
    w'.frozen? ⟨b, 0, none⟩ = false ∧ w'.frozen? ⟨b, 1, none⟩ = false ∧ w'.frozen? ⟨b, 2, none⟩ = false :=
  ⟨(hb.frozen (p := ⟨b, 0, none⟩) hlt).trans h.1, (hb.frozen (p := ⟨b, 1, none⟩) hlt).trans h.2.1, (hb.frozen (p := ⟨b, 2, none⟩) hlt).trans h.2.2⟩

set_option maxHeartbeats 1000000 in
theorem Parse_name (s : ByteArray) (w : World) (hs : s.size ≤ maxLen) (h : isName s.data.toList = true) :
    Calls Tryz.prog 103 #[.string s] w fun e w' => e = .returned (.tuple #[vv 2 0 s, .nilIface]) ∧ Below w.heap.size w w' := by
  have H := Lib.hid h
  clear h
  have x0 := Box.new w 0 0 noText
  go_enter Tryz.func103, Tryz.ntmps103
  go_wp2_with fail
  refine (Symbol_ok _ _ hs H.out).mono ?_
  rintro e w1 ⟨rfl, b1⟩
  obtain ⟨p0, p1, p2, p3⟩ := x0.below b1
  obtain ⟨f0, f1, f2⟩ := free_below b1
  have B1 := ((Below.refl w.heap.size w).alloc (Nat.le_refl _) _).trans (b1.mono (by simp))
  go_wp2
  refine bodyPost_ret (v := .tuple #[vv 2 0 s, .nilIface]) (by simp [results, Tryz.results103, go_sem, p0, p1, p2, p3]) rfl ⟨rfl, ?_⟩
  exact (below_set3 B1 _ _ _).alloc (by simpa using B1.size) _

set_option maxHeartbeats 1000000 in
theorem Parse_bad (s : ByteArray) (w : World) (hs : s.size ≤ maxLen) (hs2 : s.size ≤ 281474976710656) (h : isName s.data.toList = false) (ha : ∀ n, Lib.atoiAll s.data.toList ≠ .ok n) (hT : Tabs w) :
    Calls Tryz.prog 103 #[.string s] w fun e w' => e = .returned (.tuple #[vv 0 0 noText, eno 2]) ∧ Below w.heap.size w w' := by
  have H := Lib.hid h
  clear h
  have HA := Lib.hid ha
  clear ha
  have HT := Lib.hid hT
  clear hT
  have x0 := Box.new w 0 0 noText
  go_enter Tryz.func103, Tryz.ntmps103
  go_wp2_with fail
  refine (Symbol_no _ _ hs H.out).mono ?_
  rintro e w1 ⟨rfl, b1⟩
  have x1 := x0.below b1
  have y1 := free_below b1
  have B1 := ((Below.refl w.heap.size w).alloc (Nat.le_refl _) _).trans (b1.mono (by simp))
  have n1 : ∀ o, Below w1.heap.size w1 (w1.alloc o) := fun o => (Below.refl _ _).alloc (Nat.le_refl _) o
  go_wp2_with fail
  have B1' := B1.alloc (o := .cells #[.int .i64 0, .int .i64 0, .string noText] 39) B1.size
  refine (Atoi_bad _ hs2 HA.out _ (HT.out.below B1')).mono ?_
  rintro e w2 ⟨n, N, rfl, b2⟩
  have x2 := (x1.below (n1 _)).below b2
  have y2 := Free.below (Free.below y1 (n1 _) x1.2.2.2) b2 (x1.below (n1 _)).2.2.2
  have B2 := B1'.trans (b2.mono (B1'.size))
  obtain ⟨p0, p1, p2, p3⟩ := x2
  obtain ⟨f0, f1, f2⟩ := y2
  clear x1 y1
  go_wp2
  refine bodyPost_ret (v := .tuple #[vv 0 0 noText, eno 2]) (by simp [results, Tryz.results103, go_sem, p0, p1, p2]) rfl ⟨rfl, ?_⟩
  exact below_set3 B2 _ _ _

set_option maxHeartbeats 1000000 in
theorem Parse_over (s : ByteArray) (w : World) (hs : s.size ≤ maxLen) (hs2 : s.size ≤ 281474976710656) (h : isName s.data.toList = false) (n : Int) (ha : Lib.atoiAll s.data.toList = .ok n) (hn : inRng n = false) :
    Calls Tryz.prog 103 #[.string s] w fun e w' => e = .returned (.tuple #[vv 0 0 noText, eno 2]) ∧ Below w.heap.size w w' := by
  have H := Lib.hid h
  clear h
  have HA := Lib.hid ha
  clear ha
  have HN := Lib.hid hn
  clear hn
  have x0 := Box.new w 0 0 noText
  go_enter Tryz.func103, Tryz.ntmps103
  go_wp2_with fail
  refine (Symbol_no _ _ hs H.out).mono ?_
  rintro e w1 ⟨rfl, b1⟩
  have x1 := x0.below b1
  have y1 := free_below b1
  have B1 := ((Below.refl w.heap.size w).alloc (Nat.le_refl _) _).trans (b1.mono (by simp))
  have n1 : ∀ o, Below w1.heap.size w1 (w1.alloc o) := fun o => (Below.refl _ _).alloc (Nat.le_refl _) o
  go_wp2_with fail
  have B1' := B1.alloc (o := .cells #[.int .i64 0, .int .i64 0, .string noText] 39) B1.size
  refine (Atoi_good _ _ hs2 HA.out _).mono ?_
  rintro e w2 ⟨rfl, b2⟩
  have x2 := (x1.below (n1 _)).below b2
  have y2 := Free.below (Free.below y1 (n1 _) x1.2.2.2) b2 (x1.below (n1 _)).2.2.2
  have B2 := B1'.trans (b2.mono (B1'.size))
  clear x1 y1
  go_wp2_with fail
  refine (Of_no _ _ HN.out).mono ?_
  rintro e w3 ⟨rfl, b3⟩
  have x3 := x2.below b3
  have y3 := Free.below y2 b3 x2.2.2.2
  have B3 := B2.trans (b3.mono B2.size)
  clear x2 y2
  obtain ⟨p0, p1, p2, p3⟩ := x3
  obtain ⟨f0, f1, f2⟩ := y3
  go_wp2
  refine bodyPost_ret (v := .tuple #[vv 0 0 noText, eno 2]) (by simp [results, Tryz.results103, go_sem, p0, p1, p2, p3]) rfl ⟨rfl, ?_⟩
  exact (below_set3 B3 _ _ _).alloc (by simpa using B3.size) _

theorem text_num {n : Int} (h : inRng n = true) : textV 1 n noText = itoaB n := by
  have : isRight 1 n noText = true := by simp [isRight, h]
  simp only [textV, this]; rfl

set_option maxHeartbeats 1000000 in
theorem Parse_other (s : ByteArray) (w : World) (hs : s.size ≤ maxLen) (hs2 : s.size ≤ 281474976710656) (h : isName s.data.toList = false) (n : Int) (ha : Lib.atoiAll s.data.toList = .ok n) (hn : inRng n = true) (hx : (!(itoaB n).toList == s.toList) = true) (hT : Tab w) :
    Calls Tryz.prog 103 #[.string s] w fun e w' => e = .returned (.tuple #[vv 0 0 noText, eno 2]) ∧ Below w.heap.size w w' := by
  have H := Lib.hid h
  clear h
  have HA := Lib.hid ha
  clear ha
  have HN := Lib.hid hn
  have HX := Lib.hid (text_num hn)
  clear hn
  have HT := Lib.hid hT
  clear hT
  have x0 := Box.new w 0 0 noText
  go_enter Tryz.func103, Tryz.ntmps103
  go_wp2_with fail
  refine (Symbol_no _ _ hs H.out).mono ?_
  rintro e w1 ⟨rfl, b1⟩
  have x1 := x0.below b1
  have y1 := free_below b1
  have B1 := ((Below.refl w.heap.size w).alloc (Nat.le_refl _) _).trans (b1.mono (by simp))
  have n1 : ∀ o, Below w1.heap.size w1 (w1.alloc o) := fun o => (Below.refl _ _).alloc (Nat.le_refl _) o
  go_wp2_with fail
  have B1' := B1.alloc (o := .cells #[.int .i64 0, .int .i64 0, .string noText] 39) B1.size
  refine (Atoi_good _ _ hs2 HA.out _).mono ?_
  rintro e w2 ⟨rfl, b2⟩
  have x2 := (x1.below (n1 _)).below b2
  have y2 := Free.below (Free.below y1 (n1 _) x1.2.2.2) b2 (x1.below (n1 _)).2.2.2
  have B2 := B1'.trans (b2.mono (B1'.size))
  clear x1 y1
  go_wp2_with fail
  refine (Of_ok _ _ HN.out).mono ?_
  rintro e w3 ⟨rfl, b3⟩
  have x3 := x2.below b3
  have y3 := Free.below y2 b3 x2.2.2.2
  have z3 := Box.new w3 1 n noText
  have B3 := B2.trans (b3.mono B2.size)
  have n3 : ∀ o, Below w3.heap.size w3 (w3.alloc o) := fun o => (Below.refl _ _).alloc (Nat.le_refl _) o
  clear x2 y2
  go_wp2_with fail
  have B3' := B3.alloc (o := .cells #[.int .i64 1, .int .i64 n, .string noText] 39) B3.size
  refine (Text_is _ _ _ _ HX.out (by decide) _ (HT.out.below B3')).mono ?_
  rintro e w4 ⟨rfl, b4⟩
  have x4 := (x3.below (n3 _)).below b4
  have y4 := Free.below (Free.below y3 (n3 _) x3.2.2.2) b4 (x3.below (n3 _)).2.2.2
  obtain ⟨q0, q1, q2, q3⟩ := z3.below b4
  have B4 := B3'.trans (b4.mono B3'.size)
  clear x3 y3 z3
  obtain ⟨p0, p1, p2, p3⟩ := x4
  obtain ⟨f0, f1, f2⟩ := y4
  go_wp2
  refine bodyPost_ret (v := .tuple #[vv 0 0 noText, eno 2]) (by simp [results, Tryz.results103, go_sem, p0, p1, p2]) rfl ⟨rfl, ?_⟩
  exact below_set3 B4 _ _ _

set_option maxHeartbeats 1000000 in
theorem Parse_num (s : ByteArray) (w : World) (hs : s.size ≤ maxLen) (hs2 : s.size ≤ 281474976710656) (h : isName s.data.toList = false) (n : Int) (ha : Lib.atoiAll s.data.toList = .ok n) (hn : inRng n = true) (hx : itoaB n = s) (hT : Tab w) :
    Calls Tryz.prog 103 #[.string s] w fun e w' => e = .returned (.tuple #[vv 1 n noText, .nilIface]) ∧ Below w.heap.size w w' := by
  have H := Lib.hid h
  clear h
  have HA := Lib.hid ha
  clear ha
  have HN := Lib.hid hn
  have HX := Lib.hid (text_num hn)
  clear hn
  have HT := Lib.hid hT
  clear hT
  subst hx
  have x0 := Box.new w 0 0 noText
  go_enter Tryz.func103, Tryz.ntmps103
  go_wp2_with fail
  refine (Symbol_no _ _ hs H.out).mono ?_
  rintro e w1 ⟨rfl, b1⟩
  have x1 := x0.below b1
  have y1 := free_below b1
  have B1 := ((Below.refl w.heap.size w).alloc (Nat.le_refl _) _).trans (b1.mono (by simp))
  have n1 : ∀ o, Below w1.heap.size w1 (w1.alloc o) := fun o => (Below.refl _ _).alloc (Nat.le_refl _) o
  go_wp2_with fail
  have B1' := B1.alloc (o := .cells #[.int .i64 0, .int .i64 0, .string noText] 39) B1.size
  refine (Atoi_good _ _ hs2 HA.out _).mono ?_
  rintro e w2 ⟨rfl, b2⟩
  have x2 := (x1.below (n1 _)).below b2
  have y2 := Free.below (Free.below y1 (n1 _) x1.2.2.2) b2 (x1.below (n1 _)).2.2.2
  have B2 := B1'.trans (b2.mono (B1'.size))
  clear x1 y1
  go_wp2_with fail
  refine (Of_ok _ _ HN.out).mono ?_
  rintro e w3 ⟨rfl, b3⟩
  have x3 := x2.below b3
  have y3 := Free.below y2 b3 x2.2.2.2
  have z3 := Box.new w3 1 n noText
  have B3 := B2.trans (b3.mono B2.size)
  have n3 : ∀ o, Below w3.heap.size w3 (w3.alloc o) := fun o => (Below.refl _ _).alloc (Nat.le_refl _) o
  clear x2 y2
  go_wp2_with fail
  have B3' := B3.alloc (o := .cells #[.int .i64 1, .int .i64 n, .string noText] 39) B3.size
  refine (Text_is _ _ _ _ HX.out (by decide) _ (HT.out.below B3')).mono ?_
  rintro e w4 ⟨rfl, b4⟩
  have x4 := (x3.below (n3 _)).below b4
  have y4 := Free.below (Free.below y3 (n3 _) x3.2.2.2) b4 (x3.below (n3 _)).2.2.2
  obtain ⟨q0, q1, q2, q3⟩ := z3.below b4
  have B4 := B3'.trans (b4.mono B3'.size)
  clear x3 y3 z3
  obtain ⟨p0, p1, p2, p3⟩ := x4
  obtain ⟨f0, f1, f2⟩ := y4
  go_wp2
  refine bodyPost_ret (v := .tuple #[vv 1 n noText, .nilIface]) (by simp [results, Tryz.results103, go_sem, p0, p1, p2]) rfl ⟨rfl, ?_⟩
  exact below_set3 B4 _ _ _


end Go.Proofs.YtlfakhjcpdkaiaaGreatDoor
