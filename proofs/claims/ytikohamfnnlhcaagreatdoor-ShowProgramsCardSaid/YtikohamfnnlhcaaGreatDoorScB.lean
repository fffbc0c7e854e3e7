/- What value.Parse gives, for every text of at most 2^48 bytes: the value that has the text, or the error of form. Conditions: the library's table and its two sentinel errors as their initialisers lay them. corollaryref01.Parse: for every text the value that has it, or none: the loop over the figures, step by step. Conditions: texts no longer than Go's longest. ValueBack's walk: the law's own steps, for every value. Conditions: the library's table and its two sentinel errors. The order of values, in plain words of integers and lists of bytes: it is antisymmetric, total and transitive. Conditions: none. Which number a text is: the decimal text of a number is read as that number, and no other text is read as it; so value.Parse and corollaryref01.Parse answer the same. Conditions: texts of at most 2^48 bytes; the library's table and its two sentinel errors. -/
import Derived.Test.YtikohamfnnlhcaaGreatDoorScA
import Derived.Test.YtikohamfnnlhcaaGreatDoorShelfA
import Derived.Lib.AtoiTie
import Derived.Lib.SmallJoins
import Derived.Deep.DeepCutAuto
import Derived.StillTailTactics
import Derived.Lib.Hide
import Derived.Handy
namespace Go.Proofs.YtikohamfnnlhcaaGreatDoor
open Go.RowKit

/-- one variable of an interface type holds some error. -/
def Held (n : String) (w : World) : Prop := ∃ (t : TypeId) (p : Value), World.var? Tryz.prog w n = some #[.iface t p]
theorem Held.below {n : String} {g : Nat} (hg : Tryz.prog.globalNamed n = some g) {w w' : World} (h : Held n w) (hb : Below w.heap.size w w') : Held n w' := by
  obtain ⟨t, p, h⟩ := h
  exact ⟨t, p, var_below hg h hb⟩
theorem gSyn : Tryz.prog.globalNamed "strconv.ErrSyntax" = some 11 := by kernel_rfl
theorem gRng : Tryz.prog.globalNamed "strconv.ErrRange" = some 12 := by kernel_rfl
/-- the table and the two sentinels. -/
def Tabs (w : World) : Prop := Tab w ∧ Held "strconv.ErrSyntax" w ∧ Held "strconv.ErrRange" w
theorem Tabs.below {w w' : World} (h : Tabs w) (hb : Below w.heap.size w w') : Tabs w' := ⟨h.1.below hb, h.2.1.below gSyn hb, h.2.2.below gRng hb⟩

theorem below_bytes (w : World) (e : TypeId) (s : ByteArray) : Below w.heap.size w (Lib.bytesWorld w e s) :=
  Joins.below_bytesWorld w.heap.size w e s (Nat.le_refl _)

theorem Atoi_good (s : ByteArray) (n : Int) (hs : s.size ≤ 281474976710656) (h : Lib.atoiAll s.data.toList = .ok n) (w : World) :
    Calls Tryz.prog 185 #[.string s] w fun e w' => e = .returned (.tuple #[.int .i64 n, .nilIface]) ∧ Below w.heap.size w w' := by
  refine (Tryz.strconv_Atoi_ok s (by omega) n h w).mono fun e w' ⟨he, hw⟩ => ⟨he, ?_⟩
  rcases hw with rfl | ⟨t, rfl⟩
  · exact Below.refl _ _
  · exact below_bytes _ _ _
theorem Atoi_bad (s : ByteArray) (hs : s.size ≤ 281474976710656) (h : ∀ n, Lib.atoiAll s.data.toList ≠ .ok n) (w : World) (hT : Tabs w) :
    Calls Tryz.prog 185 #[.string s] w fun e w' => ∃ n N, e = .returned (.tuple #[.int .i64 n, .iface 270 (.pointer (some ⟨N, 0, none⟩))]) ∧ Below w.heap.size w w' := by
  obtain ⟨_, ⟨t1, p1, v1⟩, ⟨t2, p2, v2⟩⟩ := hT
  rcases hc : Lib.atoiAll s.data.toList with n | _ | _
  · exact absurd hc (h n)
  · exact (Any.strconv_Atoi_syntax_var Tryz.laysC172 s hs hc t1 p1 w v1).mono fun e w' ⟨N, he, _, _, hb⟩ => ⟨_, N, he, hb⟩
  · exact (Any.strconv_Atoi_range_var Tryz.laysC172 s hs hc t2 p2 w v2).mono fun e w' ⟨N, he, _, _, hb⟩ => ⟨_, N, he, hb⟩

theorem below_set3 {W w : World} (h : Below W.heap.size W w) (a b c : Value) :
    Below W.heap.size W (((w.setCell ⟨W.heap.size, 0, none⟩ a).setCell ⟨W.heap.size, 1, none⟩ b).setCell ⟨W.heap.size, 2, none⟩ c) :=
  ((h.setCell (p := ⟨W.heap.size, 0, none⟩) (Nat.le_refl _) a).setCell (p := ⟨W.heap.size, 1, none⟩) (Nat.le_refl _) b).setCell (p := ⟨W.heap.size, 2, none⟩) (Nat.le_refl _) c
theorem free_below {w w1 : World} {c : Array Value} {t : TypeId} (hb : Below (w.alloc (.cells c t)).heap.size (w.alloc (.cells c t)) w1) :
    w1.frozen? ⟨w.heap.size, 0, none⟩ = false ∧ w1.frozen? ⟨w.heap.size, 1, none⟩ = false ∧ w1.frozen? ⟨w.heap.size, 2, none⟩ = false := by
  refine ⟨?_, ?_, ?_⟩ <;> (refine (hb.frozen (by simp)).trans ?_; go_simp)

theorem Free.below {w w' : World} {b : Nat} (h : w.frozen? ⟨b, 0, none⟩ = false ∧ w.frozen? ⟨b, 1, none⟩ = false ∧ w.frozen? ⟨b, 2, none⟩ = false) (hb : Below w.heap.size w w') (hlt : b < w.heap.size) :
    w'.frozen? ⟨b, 0, none⟩ = false ∧ w'.frozen? ⟨b, 1, none⟩ = false ∧ w'.frozen? ⟨b, 2, none⟩ = false :=
  ⟨(hb.frozen (p := ⟨b, 0, none⟩) hlt).trans h.1, (hb.frozen (p := ⟨b, 1, none⟩) hlt).trans h.2.1, (hb.frozen (p := ⟨b, 2, none⟩) hlt).trans h.2.2⟩

set_option maxHeartbeats 1000000 in
theorem Parse_bad (s : ByteArray) (w : World) (hs : s.size ≤ maxLen) (hs2 : s.size ≤ 281474976710656) (h : isName s.data.toList = false) (ha : ∀ n, Lib.atoiAll s.data.toList ≠ .ok n) (hT : Tabs w) :
    Calls Tryz.prog 183 #[.string s] w fun e w' => e = .returned (.tuple #[vv 0 0 noText, eno 2]) ∧ Below w.heap.size w w' := by
  have H := Lib.hid h
  clear h
  have HA := Lib.hid ha
  clear ha
  have HT := Lib.hid hT
  clear hT
  have x0 := Box.new w 0 0 noText
  go_enter Tryz.func183, Tryz.ntmps183
  go_wp2_with fail
  refine (Symbol_no _ _ hs H.out).mono ?_
  rintro e w1 ⟨rfl, b1⟩
  have x1 := x0.below b1
  have y1 := free_below b1
  have B1 := ((Below.refl w.heap.size w).alloc (Nat.le_refl _) _).trans (b1.mono (by simp))
  have n1 : ∀ o, Below w1.heap.size w1 (w1.alloc o) := fun o => (Below.refl _ _).alloc (Nat.le_refl _) o
  go_wp2_with fail
  have B1' := B1.alloc (o := .cells #[.int .i64 0, .int .i64 0, .string noText] 56) B1.size
  refine (Atoi_bad _ hs2 HA.out _ (HT.out.below B1')).mono ?_
  rintro e w2 ⟨n, N, rfl, b2⟩
  have x2 := (x1.below (n1 _)).below b2
  have y2 := Free.below (Free.below y1 (n1 _) x1.2.2.2) b2 (x1.below (n1 _)).2.2.2
  have B2 := B1'.trans (b2.mono (B1'.size))
  obtain ⟨p0, p1, p2, p3⟩ := x2
  obtain ⟨f0, f1, f2⟩ := y2
  clear x1 y1
  go_wp2
  refine bodyPost_ret (v := .tuple #[vv 0 0 noText, eno 2]) (by simp [results, Tryz.results183, go_sem, p0, p1, p2]) rfl ⟨rfl, ?_⟩
  exact below_set3 B2 _ _ _

set_option maxHeartbeats 1000000 in
theorem Parse_over (s : ByteArray) (w : World) (hs : s.size ≤ maxLen) (hs2 : s.size ≤ 281474976710656) (h : isName s.data.toList = false) (n : Int) (ha : Lib.atoiAll s.data.toList = .ok n) (hn : inRng n = false) :
    Calls Tryz.prog 183 #[.string s] w fun e w' => e = .returned (.tuple #[vv 0 0 noText, eno 2]) ∧ Below w.heap.size w w' := by
  have H := Lib.hid h
  clear h
  have HA := Lib.hid ha
  clear ha
  have HN := Lib.hid hn
  clear hn
  have x0 := Box.new w 0 0 noText
  go_enter Tryz.func183, Tryz.ntmps183
  go_wp2_with fail
  refine (Symbol_no _ _ hs H.out).mono ?_
  rintro e w1 ⟨rfl, b1⟩
  have x1 := x0.below b1
  have y1 := free_below b1
  have B1 := ((Below.refl w.heap.size w).alloc (Nat.le_refl _) _).trans (b1.mono (by simp))
  have n1 : ∀ o, Below w1.heap.size w1 (w1.alloc o) := fun o => (Below.refl _ _).alloc (Nat.le_refl _) o
  go_wp2_with fail
  have B1' := B1.alloc (o := .cells #[.int .i64 0, .int .i64 0, .string noText] 56) B1.size
  refine (Atoi_good _ _ hs2 HA.out _).mono ?_
  rintro e w2 ⟨rfl, b2⟩
  have x2 := (x1.below (n1 _)).below b2
  have y2 := Free.below (Free.below y1 (n1 _) x1.2.2.2) b2 (x1.below (n1 _)).2.2.2
  have B2 := B1'.trans (b2.mono (B1'.size))
  clear x1 y1
  go_wp2_with fail
  refine (Of_no _ _ HN.out).mono ?_
  rintro e w3 ⟨rfl, b3⟩
  have x3 := x2.below b3
  have y3 := Free.below y2 b3 x2.2.2.2
  have B3 := B2.trans (b3.mono B2.size)
  clear x2 y2
  obtain ⟨p0, p1, p2, p3⟩ := x3
  obtain ⟨f0, f1, f2⟩ := y3
  go_wp2
  refine bodyPost_ret (v := .tuple #[vv 0 0 noText, eno 2]) (by simp [results, Tryz.results183, go_sem, p0, p1, p2, p3]) rfl ⟨rfl, ?_⟩
  exact (below_set3 B3 _ _ _).alloc (by simpa using B3.size) _

theorem text_num {n : Int} (h : inRng n = true) : textV 1 n noText = itoaB n := by
  have : isRight 1 n noText = true := by simp [isRight, h]
  simp only [textV, this]; rfl

set_option maxHeartbeats 1000000 in
theorem Parse_other (s : ByteArray) (w : World) (hs : s.size ≤ maxLen) (hs2 : s.size ≤ 281474976710656) (h : isName s.data.toList = false) (n : Int) (ha : Lib.atoiAll s.data.toList = .ok n) (hn : inRng n = true) (hx : (!(itoaB n).toList == s.toList) = true) (hT : Tab w) :
    Calls Tryz.prog 183 #[.string s] w fun e w' => e = .returned (.tuple #[vv 0 0 noText, eno 2]) ∧ Below w.heap.size w w' := by
  have H := Lib.hid h
  clear h
  have HA := Lib.hid ha
  clear ha
  have HN := Lib.hid hn
  have HX := Lib.hid (text_num hn)
  clear hn
  have HT := Lib.hid hT
  clear hT
  have x0 := Box.new w 0 0 noText
  go_enter Tryz.func183, Tryz.ntmps183
  go_wp2_with fail
  refine (Symbol_no _ _ hs H.out).mono ?_
  rintro e w1 ⟨rfl, b1⟩
  have x1 := x0.below b1
  have y1 := free_below b1
  have B1 := ((Below.refl w.heap.size w).alloc (Nat.le_refl _) _).trans (b1.mono (by simp))
  have n1 : ∀ o, Below w1.heap.size w1 (w1.alloc o) := fun o => (Below.refl _ _).alloc (Nat.le_refl _) o
  go_wp2_with fail
  have B1' := B1.alloc (o := .cells #[.int .i64 0, .int .i64 0, .string noText] 56) B1.size
  refine (Atoi_good _ _ hs2 HA.out _).mono ?_
  rintro e w2 ⟨rfl, b2⟩
  have x2 := (x1.below (n1 _)).below b2
  have y2 := Free.below (Free.below y1 (n1 _) x1.2.2.2) b2 (x1.below (n1 _)).2.2.2
  have B2 := B1'.trans (b2.mono (B1'.size))
  clear x1 y1
  go_wp2_with fail
  refine (Of_ok _ _ HN.out).mono ?_
  rintro e w3 ⟨rfl, b3⟩
  have x3 := x2.below b3
  have y3 := Free.below y2 b3 x2.2.2.2
  have z3 := Box.new w3 1 n noText
  have B3 := B2.trans (b3.mono B2.size)
  have n3 : ∀ o, Below w3.heap.size w3 (w3.alloc o) := fun o => (Below.refl _ _).alloc (Nat.le_refl _) o
  clear x2 y2
  go_wp2_with fail
  have B3' := B3.alloc (o := .cells #[.int .i64 1, .int .i64 n, .string noText] 56) B3.size
  refine (Text_is _ _ _ _ HX.out (by decide) _ (HT.out.below B3')).mono ?_
  rintro e w4 ⟨rfl, b4⟩
  have x4 := (x3.below (n3 _)).below b4
  have y4 := Free.below (Free.below y3 (n3 _) x3.2.2.2) b4 (x3.below (n3 _)).2.2.2
  obtain ⟨q0, q1, q2, q3⟩ := z3.below b4
  have B4 := B3'.trans (b4.mono B3'.size)
  clear x3 y3 z3
  obtain ⟨p0, p1, p2, p3⟩ := x4
  obtain ⟨f0, f1, f2⟩ := y4
  go_wp2
  refine bodyPost_ret (v := .tuple #[vv 0 0 noText, eno 2]) (by simp [results, Tryz.results183, go_sem, p0, p1, p2]) rfl ⟨rfl, ?_⟩
  exact below_set3 B4 _ _ _

set_option maxHeartbeats 1000000 in
theorem Parse_num (s : ByteArray) (w : World) (hs : s.size ≤ maxLen) (hs2 : s.size ≤ 281474976710656) (h : isName s.data.toList = false) (n : Int) (ha : Lib.atoiAll s.data.toList = .ok n) (hn : inRng n = true) (hx : itoaB n = s) (hT : Tab w) :
    Calls Tryz.prog 183 #[.string s] w fun e w' => e = .returned (.tuple #[vv 1 n noText, .nilIface]) ∧ Below w.heap.size w w' := by
  have H := Lib.hid h
  clear h
  have HA := Lib.hid ha
  clear ha
  have HN := Lib.hid hn
  have HX := Lib.hid (text_num hn)
  clear hn
  have HT := Lib.hid hT
  clear hT
  subst hx
  have x0 := Box.new w 0 0 noText
  go_enter Tryz.func183, Tryz.ntmps183
  go_wp2_with fail
  refine (Symbol_no _ _ hs H.out).mono ?_
  rintro e w1 ⟨rfl, b1⟩
  have x1 := x0.below b1
  have y1 := free_below b1
  have B1 := ((Below.refl w.heap.size w).alloc (Nat.le_refl _) _).trans (b1.mono (by simp))
  have n1 : ∀ o, Below w1.heap.size w1 (w1.alloc o) := fun o => (Below.refl _ _).alloc (Nat.le_refl _) o
  go_wp2_with fail
  have B1' := B1.alloc (o := .cells #[.int .i64 0, .int .i64 0, .string noText] 56) B1.size
  refine (Atoi_good _ _ hs2 HA.out _).mono ?_
  rintro e w2 ⟨rfl, b2⟩
  have x2 := (x1.below (n1 _)).below b2
  have y2 := Free.below (Free.below y1 (n1 _) x1.2.2.2) b2 (x1.below (n1 _)).2.2.2
  have B2 := B1'.trans (b2.mono (B1'.size))
  clear x1 y1
  go_wp2_with fail
  refine (Of_ok _ _ HN.out).mono ?_
  rintro e w3 ⟨rfl, b3⟩
  have x3 := x2.below b3
  have y3 := Free.below y2 b3 x2.2.2.2
  have z3 := Box.new w3 1 n noText
  have B3 := B2.trans (b3.mono B2.size)
  have n3 : ∀ o, Below w3.heap.size w3 (w3.alloc o) := fun o => (Below.refl _ _).alloc (Nat.le_refl _) o
  clear x2 y2
  go_wp2_with fail
  have B3' := B3.alloc (o := .cells #[.int .i64 1, .int .i64 n, .string noText] 56) B3.size
  refine (Text_is _ _ _ _ HX.out (by decide) _ (HT.out.below B3')).mono ?_
  rintro e w4 ⟨rfl, b4⟩
  have x4 := (x3.below (n3 _)).below b4
  have y4 := Free.below (Free.below y3 (n3 _) x3.2.2.2) b4 (x3.below (n3 _)).2.2.2
  obtain ⟨q0, q1, q2, q3⟩ := z3.below b4
  have B4 := B3'.trans (b4.mono B3'.size)
  clear x3 y3 z3
  obtain ⟨p0, p1, p2, p3⟩ := x4
  obtain ⟨f0, f1, f2⟩ := y4
  go_wp2
  refine bodyPost_ret (v := .tuple #[vv 1 n noText, .nilIface]) (by simp [results, Tryz.results183, go_sem, p0, p1, p2]) rfl ⟨rfl, ?_⟩
  exact below_set3 B4 _ _ _


end Go.Proofs.YtikohamfnnlhcaaGreatDoor

namespace Go.Proofs.YtikohamfnnlhcaaGreatDoor
open Go.RowKit

/-- the number behind a sign: none if the text is no number's. -/
def pnum (neg : Bool) (t : List UInt8) : Option Nat :=
  if t.length = 0 ∨ 10 < t.length then none
  else if (t.head? = some 48 ∧ (1 < t.length ∨ neg = true)) then none
  else match Lib.decFrom 0 t with
    | some m => if m ≤ 2147483647 then some m else none
    | none => none
/-- what Parse answers. -/
def outV : Option Int → Value
  | some n => .tuple #[vv 1 n noText, .bool true]
  | none => .tuple #[vv 0 0 noText, .bool false]
def signed (neg : Bool) (o : Option Nat) : Option Int := o.map fun (m : Nat) => if neg then -(m : Int) else (m : Int)
/-- no figure 0 too many. -/
def HeadOk (neg : Bool) (T : ByteArray) : Prop := ¬ (T.data.toList.head? = some 48 ∧ (1 < T.data.toList.length ∨ neg = true))

theorem size_len (T : ByteArray) : T.data.toList.length = T.size := by simp
theorem decFrom_one {a : Nat} {c : UInt8} (h1 : 48 ≤ c.toNat) (h2 : c.toNat ≤ 57) : Lib.decFrom a [c] = some (a * 10 + (c.toNat - 48)) := by
  have : Lib.digitVal c = some (c.toNat - 48) := by unfold Lib.digitVal; rw [if_pos ⟨h1, h2⟩]
  simp only [Lib.decFrom, this]
theorem dec_more (T : ByteArray) (k m : Nat) (hk : k < T.size) (h : Lib.decFrom 0 (T.data.toList.take k) = some m) (h1 : 48 ≤ T[k].toNat) (h2 : T[k].toNat ≤ 57) :
    Lib.decFrom 0 (T.data.toList.take (k + 1)) = some (m * 10 + (T[k].toNat - 48)) := by
  rw [take_snoc T k hk, decFrom_append _ _ _ _ h, decFrom_one h1 h2]
theorem pow_more (m k d : Nat) (h : m < 10 ^ k) (hd : d ≤ 9) : m * 10 + d < 10 ^ (k + 1) := by
  rw [Nat.pow_succ]; omega
theorem decFrom_stop (l r : List UInt8) (c : UInt8) (hc : ¬ (48 ≤ c.toNat ∧ c.toNat ≤ 57)) : ∀ a b, Lib.decFrom a l = some b → Lib.decFrom a (l ++ c :: r) = none := fun a b h => by
  rw [decFrom_append _ _ _ _ h]
  have : Lib.digitVal c = none := by unfold Lib.digitVal; rw [if_neg hc]
  simp only [Lib.decFrom, this]
theorem dec_stop (T : ByteArray) (k m : Nat) (hk : k < T.size) (h : Lib.decFrom 0 (T.data.toList.take k) = some m) (hc : ¬ (48 ≤ T[k].toNat ∧ T[k].toNat ≤ 57)) : Lib.decFrom 0 T.data.toList = none := by
  have e : T.data.toList = T.data.toList.take k ++ T[k] :: T.data.toList.drop (k + 1) := by
    have h1 := List.take_append_drop (k + 1) T.data.toList
    rw [take_snoc T k hk] at h1
    simpa using h1.symm
  rw [e]
  exact decFrom_stop _ _ _ hc _ _ h
theorem pnum_none {neg : Bool} {t : List UInt8} (h : Lib.decFrom 0 t = none) : pnum neg t = none := by
  unfold pnum
  split
  · rfl
  · split
    · rfl
    · rw [h]
theorem pnum_stop (neg : Bool) (T : ByteArray) (k m : Nat) (hk : k < T.size) (h : Lib.decFrom 0 (T.data.toList.take k) = some m) (hc : ¬ (48 ≤ T[k].toNat ∧ T[k].toNat ≤ 57)) :
    (Value.tuple #[vv 0 0 noText, .bool false]) = outV (signed neg (pnum neg T.data.toList)) := by
  rw [pnum_none (dec_stop T k m hk h hc)]; rfl
theorem dec_all {T : ByteArray} {k m : Nat} (hk : T.size ≤ k) (h : Lib.decFrom 0 (T.data.toList.take k) = some m) : Lib.decFrom 0 T.data.toList = some m := by
  rwa [List.take_of_length_le (by simpa using hk)] at h
theorem pnum_over (neg : Bool) (T : ByteArray) (k m : Nat) (hk : T.size ≤ k) (h : Lib.decFrom 0 (T.data.toList.take k) = some m) (hm : ¬ m ≤ 2147483647) :
    (Value.tuple #[vv 0 0 noText, .bool false]) = outV (signed neg (pnum neg T.data.toList)) := by
  have : pnum neg T.data.toList = none := by
    unfold pnum
    split
    · rfl
    · split
      · rfl
      · rw [dec_all hk h]; simp only [if_neg hm]
  rw [this]; rfl
theorem pnum_good (neg : Bool) (T : ByteArray) (k m : Nat) (hk : T.size ≤ k) (h : Lib.decFrom 0 (T.data.toList.take k) = some m) (hm : m ≤ 2147483647) (h0 : ¬ T.size = 0) (h10 : ¬ 10 < T.size) (hz : HeadOk neg T) :
    (Value.tuple #[vv 1 (if neg then -(m : Int) else (m : Int)) noText, .bool true]) = outV (signed neg (pnum neg T.data.toList)) := by
  have : pnum neg T.data.toList = some m := by
    unfold pnum
    rw [if_neg (by rw [size_len]; omega), if_neg hz, dec_all hk h]
    simp only [if_pos hm]
  rw [this]; rfl
theorem pnum_len (neg : Bool) (T : ByteArray) (h : T.size = 0 ∨ 10 < T.size) : (Value.tuple #[vv 0 0 noText, .bool false]) = outV (signed neg (pnum neg T.data.toList)) := by
  have : pnum neg T.data.toList = none := by unfold pnum; rw [if_pos (by rw [size_len]; exact h)]
  rw [this]; rfl
theorem pnum_head (neg : Bool) (T : ByteArray) (h : ¬ HeadOk neg T) : (Value.tuple #[vv 0 0 noText, .bool false]) = outV (signed neg (pnum neg T.data.toList)) := by
  have : pnum neg T.data.toList = none := by
    unfold pnum
    split
    · rfl
    · rw [if_pos (Classical.not_not.1 h)]
  rw [this]; rfl

set_option maxHeartbeats 2000000 in
theorem ref_pos_long (s : ByteArray) (w : World) (hs : s.size ≤ maxLen) (hm : isName s.data.toList = false) (hT : s.size ≤ maxLen) (h0 : 0 < s.size) (h45 : ((s[0].toNat : Int) == 45) = false) (hl : 10 < (s.size : Int)) :
    Calls Tryz.prog 160 #[.string s] w fun e w' => e = .returned (outV (signed false (pnum false s.data.toList))) ∧ Below w.heap.size w w' := by
  have hT' := hT
  unfold maxLen at hT'
  have HM := Lib.hid hm
  clear hm
  have hzz : ((s.size : Int) == 0) = false := beq_eq_false_iff_ne.2 (by omega)
  have hz2 : ¬ s = ByteArray.empty := fun h => by subst h; simp at h0
  go_enter Tryz.func160, Tryz.ntmps160
  go_wp2_with fail
  refine (refName_is _ _ HM.out hs _).mono ?_
  rintro e w1 ⟨rfl, rfl⟩
  go_upto_if 20 with fail
  go_cut [4, 5] (fun s4 s5 wx => s4 = .string s ∧ s5 = .int .i64 1 ∧ wx = w.alloc (.cells #[.int .i64 0, .int .i64 0, .string noText] 56))
  case first =>
    go_wp2_with fail
    go_meet
    exact ⟨rfl, rfl, rfl⟩
  case rest =>
    obtain ⟨rfl, rfl, rfl⟩ := hcut
    have d1 : decide (10 < (s.size : Int)) = true := by simp; omega
    have HE := Lib.hid (pnum_len false s (by omega))
    go_wp2
    refine bodyPost_ret (v := .tuple #[vv 0 0 noText, .bool false]) (by simp [results, Tryz.results160, go_sem]) rfl ⟨congrArg Ending.returned HE.out, ?_⟩
    exact (Below.refl _ _).alloc (Nat.le_refl _) _

set_option maxHeartbeats 2000000 in
theorem ref_pos_zero (s : ByteArray) (w : World) (hs : s.size ≤ maxLen) (hm : isName s.data.toList = false) (hT : s.size ≤ maxLen) (h0 : 0 < s.size) (h45 : ((s[0].toNat : Int) == 45) = false) (hl : (s.size : Int) ≤ 10) (h48 : ((s[0].toNat : Int) == 48) = true) (h1 : 1 < (s.size : Int)) (hz : ¬ HeadOk false s) :
    Calls Tryz.prog 160 #[.string s] w fun e w' => e = .returned (outV (signed false (pnum false s.data.toList))) ∧ Below w.heap.size w w' := by
  have hT' := hT
  unfold maxLen at hT'
  have HM := Lib.hid hm
  clear hm
  have hzz : ((s.size : Int) == 0) = false := beq_eq_false_iff_ne.2 (by omega)
  have hz2 : ¬ s = ByteArray.empty := fun h => by subst h; simp at h0
  go_enter Tryz.func160, Tryz.ntmps160
  go_wp2_with fail
  refine (refName_is _ _ HM.out hs _).mono ?_
  rintro e w1 ⟨rfl, rfl⟩
  go_upto_if 20 with fail
  go_cut [4, 5] (fun s4 s5 wx => s4 = .string s ∧ s5 = .int .i64 1 ∧ wx = w.alloc (.cells #[.int .i64 0, .int .i64 0, .string noText] 56))
  case first =>
    go_wp2_with fail
    go_meet
    exact ⟨rfl, rfl, rfl⟩
  case rest =>
    obtain ⟨rfl, rfl, rfl⟩ := hcut
    have HZ := Lib.hid hz
    clear hz
    have d1 : decide (10 < (s.size : Int)) = false := by simp; omega
    have d2 : decide (1 < (s.size : Int)) = true := by simp; omega
    have HE := Lib.hid (pnum_head false s HZ.out)
    go_wp2
    refine bodyPost_ret (v := .tuple #[vv 0 0 noText, .bool false]) (by simp [results, Tryz.results160, go_sem]) rfl ⟨congrArg Ending.returned HE.out, ?_⟩
    exact (Below.refl _ _).alloc (Nat.le_refl _) _

set_option maxHeartbeats 2000000 in
theorem ref_pos_one (s : ByteArray) (w : World) (hs : s.size ≤ maxLen) (hm : isName s.data.toList = false) (hT : s.size ≤ maxLen) (h0 : 0 < s.size) (h45 : ((s[0].toNat : Int) == 45) = false) (hl : (s.size : Int) ≤ 10) (h48 : ((s[0].toNat : Int) == 48) = true) (h1 : (s.size : Int) ≤ 1) (hz : HeadOk false s) :
    Calls Tryz.prog 160 #[.string s] w fun e w' => e = .returned (outV (signed false (pnum false s.data.toList))) ∧ Below w.heap.size w w' := by
  have hT' := hT
  unfold maxLen at hT'
  have HM := Lib.hid hm
  clear hm
  have hzz : ((s.size : Int) == 0) = false := beq_eq_false_iff_ne.2 (by omega)
  have hz2 : ¬ s = ByteArray.empty := fun h => by subst h; simp at h0
  go_enter Tryz.func160, Tryz.ntmps160
  go_wp2_with fail
  refine (refName_is _ _ HM.out hs _).mono ?_
  rintro e w1 ⟨rfl, rfl⟩
  go_upto_if 20 with fail
  go_cut [4, 5] (fun s4 s5 wx => s4 = .string s ∧ s5 = .int .i64 1 ∧ wx = w.alloc (.cells #[.int .i64 0, .int .i64 0, .string noText] 56))
  case first =>
    go_wp2_with fail
    go_meet
    exact ⟨rfl, rfl, rfl⟩
  case rest =>
    obtain ⟨rfl, rfl, rfl⟩ := hcut
    have HZ := Lib.hid hz
    clear hz
    have d1 : decide (10 < (s.size : Int)) = false := by simp; omega
    have d2 : decide (1 < (s.size : Int)) = false := by simp; omega
    go_wp2
    go_loop [6, 7] (fun n i => ∃ k m : Nat, k ≤ s.size ∧ i = .int .i64 k ∧ n = .int .i64 m ∧ Hid (Lib.decFrom 0 (s.data.toList.take k) = some m) ∧ m < 10 ^ k) (fun _ i => s.size - (intOf i).toNat)
    case atStart => exact ⟨0, 0, Nat.zero_le _, rfl, rfl, rfl, by decide⟩
    case round =>
      obtain ⟨k, m, hk, rfl, rfl, HD, hb⟩ := hrel
      by_cases hlt : k < s.size
      · have hb9 : m < 1000000000 := Nat.lt_of_lt_of_le hb (Nat.le_trans (Nat.pow_le_pow_right (by decide) (by omega : k ≤ 9)) (by decide))
        by_cases h1 : 48 ≤ (s[k].toNat : Int)
        · have t1 : decide ((s[k].toNat : Int) < 48) = false := by simp; omega
          by_cases h2 : (s[k].toNat : Int) ≤ 57
          · have t2 : decide (57 < (s[k].toNat : Int)) = false := by simp; omega
            have HS := Lib.hid (dec_more s k m hlt HD.out (by omega) (by omega))
            have hb' := pow_more m k (s[k].toNat - 48) hb (by omega)
            go_wp2
            go_round
            case rel => exact ⟨k + 1, m * 10 + (s[k].toNat - 48), by omega, by go_num, congrArg (Value.int IntKind.i64) (by omega), HS.out, hb'⟩
            case measure => simp [intOf]; omega
          · have t2 : decide (57 < (s[k].toNat : Int)) = true := by simp; omega
            have HE := Lib.hid (pnum_stop false s k m hlt HD.out (by omega))
            go_wp2
            refine bodyPost_ret (v := .tuple #[vv 0 0 noText, .bool false]) (by simp [results, Tryz.results160, go_sem]) rfl ⟨congrArg Ending.returned HE.out, ?_⟩
            exact (Below.refl _ _).alloc (Nat.le_refl _) _
        · have t1 : decide ((s[k].toNat : Int) < 48) = true := by simp; omega
          have HE := Lib.hid (pnum_stop false s k m hlt HD.out (by omega))
          go_wp2
          refine bodyPost_ret (v := .tuple #[vv 0 0 noText, .bool false]) (by simp [results, Tryz.results160, go_sem]) rfl ⟨congrArg Ending.returned HE.out, ?_⟩
          exact (Below.refl _ _).alloc (Nat.le_refl _) _
      · have hb10 : m < 10000000000 := Nat.lt_of_lt_of_le hb (Nat.le_trans (Nat.pow_le_pow_right (by decide) (by omega : k ≤ 10)) (by decide))
        have hkk : s.size ≤ k := by omega
        by_cases h3 : (m : Int) ≤ 2147483647
        · have t3 : decide (2147483647 < (m : Int)) = false := by simp; omega
          have HE := Lib.hid (pnum_good false s k m hkk HD.out (by omega) (by omega) (by omega) HZ.out)
          go_wp2
          refine bodyPost_ret (v := .tuple #[vv 1 ((m : Int)) noText, .bool true]) (by simp [results, Tryz.results160, go_sem]) rfl ⟨congrArg Ending.returned HE.out, ?_⟩
          exact (Below.refl _ _).alloc (Nat.le_refl _) _
        · have t3 : decide (2147483647 < (m : Int)) = true := by simp; omega
          have HE := Lib.hid (pnum_over false s k m hkk HD.out (by omega))
          go_wp2
          refine bodyPost_ret (v := .tuple #[vv 0 0 noText, .bool false]) (by simp [results, Tryz.results160, go_sem]) rfl ⟨congrArg Ending.returned HE.out, ?_⟩
          exact (Below.refl _ _).alloc (Nat.le_refl _) _

set_option maxHeartbeats 2000000 in
theorem ref_pos_loop (s : ByteArray) (w : World) (hs : s.size ≤ maxLen) (hm : isName s.data.toList = false) (hT : s.size ≤ maxLen) (h0 : 0 < s.size) (h45 : ((s[0].toNat : Int) == 45) = false) (hl : (s.size : Int) ≤ 10) (h48 : ((s[0].toNat : Int) == 48) = false) (hz : HeadOk false s) :
    Calls Tryz.prog 160 #[.string s] w fun e w' => e = .returned (outV (signed false (pnum false s.data.toList))) ∧ Below w.heap.size w w' := by
  have hT' := hT
  unfold maxLen at hT'
  have HM := Lib.hid hm
  clear hm
  have hzz : ((s.size : Int) == 0) = false := beq_eq_false_iff_ne.2 (by omega)
  have hz2 : ¬ s = ByteArray.empty := fun h => by subst h; simp at h0
  go_enter Tryz.func160, Tryz.ntmps160
  go_wp2_with fail
  refine (refName_is _ _ HM.out hs _).mono ?_
  rintro e w1 ⟨rfl, rfl⟩
  go_upto_if 20 with fail
  go_cut [4, 5] (fun s4 s5 wx => s4 = .string s ∧ s5 = .int .i64 1 ∧ wx = w.alloc (.cells #[.int .i64 0, .int .i64 0, .string noText] 56))
  case first =>
    go_wp2_with fail
    go_meet
    exact ⟨rfl, rfl, rfl⟩
  case rest =>
    obtain ⟨rfl, rfl, rfl⟩ := hcut
    have HZ := Lib.hid hz
    clear hz
    have d1 : decide (10 < (s.size : Int)) = false := by simp; omega
    go_wp2
    go_loop [6, 7] (fun n i => ∃ k m : Nat, k ≤ s.size ∧ i = .int .i64 k ∧ n = .int .i64 m ∧ Hid (Lib.decFrom 0 (s.data.toList.take k) = some m) ∧ m < 10 ^ k) (fun _ i => s.size - (intOf i).toNat)
    case atStart => exact ⟨0, 0, Nat.zero_le _, rfl, rfl, rfl, by decide⟩
    case round =>
      obtain ⟨k, m, hk, rfl, rfl, HD, hb⟩ := hrel
      by_cases hlt : k < s.size
      · have hb9 : m < 1000000000 := Nat.lt_of_lt_of_le hb (Nat.le_trans (Nat.pow_le_pow_right (by decide) (by omega : k ≤ 9)) (by decide))
        by_cases h1 : 48 ≤ (s[k].toNat : Int)
        · have t1 : decide ((s[k].toNat : Int) < 48) = false := by simp; omega
          by_cases h2 : (s[k].toNat : Int) ≤ 57
          · have t2 : decide (57 < (s[k].toNat : Int)) = false := by simp; omega
            have HS := Lib.hid (dec_more s k m hlt HD.out (by omega) (by omega))
            have hb' := pow_more m k (s[k].toNat - 48) hb (by omega)
            go_wp2
            go_round
            case rel => exact ⟨k + 1, m * 10 + (s[k].toNat - 48), by omega, by go_num, congrArg (Value.int IntKind.i64) (by omega), HS.out, hb'⟩
            case measure => simp [intOf]; omega
          · have t2 : decide (57 < (s[k].toNat : Int)) = true := by simp; omega
            have HE := Lib.hid (pnum_stop false s k m hlt HD.out (by omega))
            go_wp2
            refine bodyPost_ret (v := .tuple #[vv 0 0 noText, .bool false]) (by simp [results, Tryz.results160, go_sem]) rfl ⟨congrArg Ending.returned HE.out, ?_⟩
            exact (Below.refl _ _).alloc (Nat.le_refl _) _
        · have t1 : decide ((s[k].toNat : Int) < 48) = true := by simp; omega
          have HE := Lib.hid (pnum_stop false s k m hlt HD.out (by omega))
          go_wp2
          refine bodyPost_ret (v := .tuple #[vv 0 0 noText, .bool false]) (by simp [results, Tryz.results160, go_sem]) rfl ⟨congrArg Ending.returned HE.out, ?_⟩
          exact (Below.refl _ _).alloc (Nat.le_refl _) _
      · have hb10 : m < 10000000000 := Nat.lt_of_lt_of_le hb (Nat.le_trans (Nat.pow_le_pow_right (by decide) (by omega : k ≤ 10)) (by decide))
        have hkk : s.size ≤ k := by omega
        by_cases h3 : (m : Int) ≤ 2147483647
        · have t3 : decide (2147483647 < (m : Int)) = false := by simp; omega
          have HE := Lib.hid (pnum_good false s k m hkk HD.out (by omega) (by omega) (by omega) HZ.out)
          go_wp2
          refine bodyPost_ret (v := .tuple #[vv 1 ((m : Int)) noText, .bool true]) (by simp [results, Tryz.results160, go_sem]) rfl ⟨congrArg Ending.returned HE.out, ?_⟩
          exact (Below.refl _ _).alloc (Nat.le_refl _) _
        · have t3 : decide (2147483647 < (m : Int)) = true := by simp; omega
          have HE := Lib.hid (pnum_over false s k m hkk HD.out (by omega))
          go_wp2
          refine bodyPost_ret (v := .tuple #[vv 0 0 noText, .bool false]) (by simp [results, Tryz.results160, go_sem]) rfl ⟨congrArg Ending.returned HE.out, ?_⟩
          exact (Below.refl _ _).alloc (Nat.le_refl _) _

set_option maxHeartbeats 2000000 in
theorem ref_empty  (w : World) (hs : noText.size ≤ maxLen) (hm : isName noText.data.toList = false) (hT : noText.size ≤ maxLen)  :
    Calls Tryz.prog 160 #[.string noText] w fun e w' => e = .returned (outV (signed false (pnum false noText.data.toList))) ∧ Below w.heap.size w w' := by
  have hT' := hT
  unfold maxLen at hT'
  have HM := Lib.hid hm
  clear hm
  go_enter Tryz.func160, Tryz.ntmps160
  go_wp2_with fail
  refine (refName_is _ _ HM.out hs _).mono ?_
  rintro e w1 ⟨rfl, rfl⟩
  go_upto_if 20 with fail
  go_cut [4, 5] (fun s4 s5 wx => s4 = .string noText ∧ s5 = .int .i64 1 ∧ wx = w.alloc (.cells #[.int .i64 0, .int .i64 0, .string noText] 56))
  case first =>
    go_wp2_with fail
    go_meet
    exact ⟨rfl, rfl, rfl⟩
  case rest =>
    obtain ⟨rfl, rfl, rfl⟩ := hcut
    have HE := Lib.hid (pnum_len false noText (Or.inl rfl))
    go_wp2
    refine bodyPost_ret (v := .tuple #[vv 0 0 noText, .bool false]) (by simp [results, Tryz.results160, go_sem]) rfl ⟨congrArg Ending.returned HE.out, ?_⟩
    exact (Below.refl _ _).alloc (Nat.le_refl _) _

set_option maxHeartbeats 2000000 in
theorem ref_neg_none (s T : ByteArray) (w : World) (hs : s.size ≤ maxLen) (hm : isName s.data.toList = false) (hT : T.size ≤ maxLen) (h0 : 0 < s.size) (h45 : ((s[0].toNat : Int) == 45) = true) (hte : s.extract 1 s.size = T) (hl : T.size = 0) :
    Calls Tryz.prog 160 #[.string s] w fun e w' => e = .returned (outV (signed true (pnum true T.data.toList))) ∧ Below w.heap.size w w' := by
  have hT' := hT
  unfold maxLen at hT'
  have HM := Lib.hid hm
  clear hm
  have hzz : ((s.size : Int) == 0) = false := beq_eq_false_iff_ne.2 (by omega)
  have hz2 : ¬ s = ByteArray.empty := fun h => by subst h; simp at h0
  have HTE := Lib.hid hte
  clear hte
  go_enter Tryz.func160, Tryz.ntmps160
  go_wp2_with fail
  refine (refName_is _ _ HM.out hs _).mono ?_
  rintro e w1 ⟨rfl, rfl⟩
  go_upto_if 20 with fail
  go_cut [4, 5] (fun s4 s5 wx => s4 = .string T ∧ s5 = .int .i64 (-1) ∧ wx = w.alloc (.cells #[.int .i64 0, .int .i64 0, .string noText] 56))
  case first =>
    go_wp2_with fail
    go_meet
    exact ⟨by rw [HTE.out], rfl, rfl⟩
  case rest =>
    obtain ⟨rfl, rfl, rfl⟩ := hcut
    have hzzT : ((T.size : Int) == 0) = true := beq_iff_eq.2 (by omega)
    have hle := Lib.hid hl
    clear hl
    have HE := Lib.hid (pnum_len true T (Or.inl hle.out))
    go_wp2
    refine bodyPost_ret (v := .tuple #[vv 0 0 noText, .bool false]) (by simp [results, Tryz.results160, go_sem]) rfl ⟨congrArg Ending.returned HE.out, ?_⟩
    exact (Below.refl _ _).alloc (Nat.le_refl _) _

set_option maxHeartbeats 2000000 in
theorem ref_neg_long (s T : ByteArray) (w : World) (hs : s.size ≤ maxLen) (hm : isName s.data.toList = false) (hT : T.size ≤ maxLen) (h0 : 0 < s.size) (h45 : ((s[0].toNat : Int) == 45) = true) (hte : s.extract 1 s.size = T) (h0T : 0 < T.size) (hl : 10 < (T.size : Int)) :
    Calls Tryz.prog 160 #[.string s] w fun e w' => e = .returned (outV (signed true (pnum true T.data.toList))) ∧ Below w.heap.size w w' := by
  have hT' := hT
  unfold maxLen at hT'
  have HM := Lib.hid hm
  clear hm
  have hzz : ((s.size : Int) == 0) = false := beq_eq_false_iff_ne.2 (by omega)
  have hz2 : ¬ s = ByteArray.empty := fun h => by subst h; simp at h0
  have HTE := Lib.hid hte
  clear hte
  go_enter Tryz.func160, Tryz.ntmps160
  go_wp2_with fail
  refine (refName_is _ _ HM.out hs _).mono ?_
  rintro e w1 ⟨rfl, rfl⟩
  go_upto_if 20 with fail
  go_cut [4, 5] (fun s4 s5 wx => s4 = .string T ∧ s5 = .int .i64 (-1) ∧ wx = w.alloc (.cells #[.int .i64 0, .int .i64 0, .string noText] 56))
  case first =>
    go_wp2_with fail
    go_meet
    exact ⟨by rw [HTE.out], rfl, rfl⟩
  case rest =>
    obtain ⟨rfl, rfl, rfl⟩ := hcut
    have hzzT : ((T.size : Int) == 0) = false := beq_eq_false_iff_ne.2 (by omega)
    have hzT2 : ¬ T = ByteArray.empty := fun h => by subst h; simp at h0T
    have d1 : decide (10 < (T.size : Int)) = true := by simp; omega
    have HE := Lib.hid (pnum_len true T (by omega))
    go_wp2
    refine bodyPost_ret (v := .tuple #[vv 0 0 noText, .bool false]) (by simp [results, Tryz.results160, go_sem]) rfl ⟨congrArg Ending.returned HE.out, ?_⟩
    exact (Below.refl _ _).alloc (Nat.le_refl _) _

set_option maxHeartbeats 2000000 in
theorem ref_neg_zero (s T : ByteArray) (w : World) (hs : s.size ≤ maxLen) (hm : isName s.data.toList = false) (hT : T.size ≤ maxLen) (h0 : 0 < s.size) (h45 : ((s[0].toNat : Int) == 45) = true) (hte : s.extract 1 s.size = T) (h0T : 0 < T.size) (hl : (T.size : Int) ≤ 10) (h48 : ((T[0].toNat : Int) == 48) = true) (hz : ¬ HeadOk true T) :
    Calls Tryz.prog 160 #[.string s] w fun e w' => e = .returned (outV (signed true (pnum true T.data.toList))) ∧ Below w.heap.size w w' := by
  have hT' := hT
  unfold maxLen at hT'
  have HM := Lib.hid hm
  clear hm
  have hzz : ((s.size : Int) == 0) = false := beq_eq_false_iff_ne.2 (by omega)
  have hz2 : ¬ s = ByteArray.empty := fun h => by subst h; simp at h0
  have HTE := Lib.hid hte
  clear hte
  go_enter Tryz.func160, Tryz.ntmps160
  go_wp2_with fail
  refine (refName_is _ _ HM.out hs _).mono ?_
  rintro e w1 ⟨rfl, rfl⟩
  go_upto_if 20 with fail
  go_cut [4, 5] (fun s4 s5 wx => s4 = .string T ∧ s5 = .int .i64 (-1) ∧ wx = w.alloc (.cells #[.int .i64 0, .int .i64 0, .string noText] 56))
  case first =>
    go_wp2_with fail
    go_meet
    exact ⟨by rw [HTE.out], rfl, rfl⟩
  case rest =>
    obtain ⟨rfl, rfl, rfl⟩ := hcut
    have HZ := Lib.hid hz
    clear hz
    have hzzT : ((T.size : Int) == 0) = false := beq_eq_false_iff_ne.2 (by omega)
    have hzT2 : ¬ T = ByteArray.empty := fun h => by subst h; simp at h0T
    have d1 : decide (10 < (T.size : Int)) = false := by simp; omega
    by_cases h1 : 1 < (T.size : Int)
    · have d2 : decide (1 < (T.size : Int)) = true := by simp; omega
      have HE := Lib.hid (pnum_head true T HZ.out)
      go_wp2
      refine bodyPost_ret (v := .tuple #[vv 0 0 noText, .bool false]) (by simp [results, Tryz.results160, go_sem]) rfl ⟨congrArg Ending.returned HE.out, ?_⟩
      exact (Below.refl _ _).alloc (Nat.le_refl _) _
    · have d2 : decide (1 < (T.size : Int)) = false := by simp; omega
      have HE := Lib.hid (pnum_head true T HZ.out)
      go_wp2
      refine bodyPost_ret (v := .tuple #[vv 0 0 noText, .bool false]) (by simp [results, Tryz.results160, go_sem]) rfl ⟨congrArg Ending.returned HE.out, ?_⟩
      exact (Below.refl _ _).alloc (Nat.le_refl _) _

set_option maxHeartbeats 2000000 in
theorem ref_neg_loop (s T : ByteArray) (w : World) (hs : s.size ≤ maxLen) (hm : isName s.data.toList = false) (hT : T.size ≤ maxLen) (h0 : 0 < s.size) (h45 : ((s[0].toNat : Int) == 45) = true) (hte : s.extract 1 s.size = T) (h0T : 0 < T.size) (hl : (T.size : Int) ≤ 10) (h48 : ((T[0].toNat : Int) == 48) = false) (hz : HeadOk true T) :
    Calls Tryz.prog 160 #[.string s] w fun e w' => e = .returned (outV (signed true (pnum true T.data.toList))) ∧ Below w.heap.size w w' := by
  have hT' := hT
  unfold maxLen at hT'
  have HM := Lib.hid hm
  clear hm
  have hzz : ((s.size : Int) == 0) = false := beq_eq_false_iff_ne.2 (by omega)
  have hz2 : ¬ s = ByteArray.empty := fun h => by subst h; simp at h0
  have HTE := Lib.hid hte
  clear hte
  go_enter Tryz.func160, Tryz.ntmps160
  go_wp2_with fail
  refine (refName_is _ _ HM.out hs _).mono ?_
  rintro e w1 ⟨rfl, rfl⟩
  go_upto_if 20 with fail
  go_cut [4, 5] (fun s4 s5 wx => s4 = .string T ∧ s5 = .int .i64 (-1) ∧ wx = w.alloc (.cells #[.int .i64 0, .int .i64 0, .string noText] 56))
  case first =>
    go_wp2_with fail
    go_meet
    exact ⟨by rw [HTE.out], rfl, rfl⟩
  case rest =>
    obtain ⟨rfl, rfl, rfl⟩ := hcut
    have HZ := Lib.hid hz
    clear hz
    have hzzT : ((T.size : Int) == 0) = false := beq_eq_false_iff_ne.2 (by omega)
    have hzT2 : ¬ T = ByteArray.empty := fun h => by subst h; simp at h0T
    have d1 : decide (10 < (T.size : Int)) = false := by simp; omega
    go_wp2
    go_loop [6, 7] (fun n i => ∃ k m : Nat, k ≤ T.size ∧ i = .int .i64 k ∧ n = .int .i64 m ∧ Hid (Lib.decFrom 0 (T.data.toList.take k) = some m) ∧ m < 10 ^ k) (fun _ i => T.size - (intOf i).toNat)
    case atStart => exact ⟨0, 0, Nat.zero_le _, rfl, rfl, rfl, by decide⟩
    case round =>
      obtain ⟨k, m, hk, rfl, rfl, HD, hb⟩ := hrel
      by_cases hlt : k < T.size
      · have hb9 : m < 1000000000 := Nat.lt_of_lt_of_le hb (Nat.le_trans (Nat.pow_le_pow_right (by decide) (by omega : k ≤ 9)) (by decide))
        by_cases h1 : 48 ≤ (T[k].toNat : Int)
        · have t1 : decide ((T[k].toNat : Int) < 48) = false := by simp; omega
          by_cases h2 : (T[k].toNat : Int) ≤ 57
          · have t2 : decide (57 < (T[k].toNat : Int)) = false := by simp; omega
            have HS := Lib.hid (dec_more T k m hlt HD.out (by omega) (by omega))
            have hb' := pow_more m k (T[k].toNat - 48) hb (by omega)
            go_wp2
            go_round
            case rel => exact ⟨k + 1, m * 10 + (T[k].toNat - 48), by omega, by go_num, congrArg (Value.int IntKind.i64) (by omega), HS.out, hb'⟩
            case measure => simp [intOf]; omega
          · have t2 : decide (57 < (T[k].toNat : Int)) = true := by simp; omega
            have HE := Lib.hid (pnum_stop true T k m hlt HD.out (by omega))
            go_wp2
            refine bodyPost_ret (v := .tuple #[vv 0 0 noText, .bool false]) (by simp [results, Tryz.results160, go_sem]) rfl ⟨congrArg Ending.returned HE.out, ?_⟩
            exact (Below.refl _ _).alloc (Nat.le_refl _) _
        · have t1 : decide ((T[k].toNat : Int) < 48) = true := by simp; omega
          have HE := Lib.hid (pnum_stop true T k m hlt HD.out (by omega))
          go_wp2
          refine bodyPost_ret (v := .tuple #[vv 0 0 noText, .bool false]) (by simp [results, Tryz.results160, go_sem]) rfl ⟨congrArg Ending.returned HE.out, ?_⟩
          exact (Below.refl _ _).alloc (Nat.le_refl _) _
      · have hb10 : m < 10000000000 := Nat.lt_of_lt_of_le hb (Nat.le_trans (Nat.pow_le_pow_right (by decide) (by omega : k ≤ 10)) (by decide))
        have hkk : T.size ≤ k := by omega
        by_cases h3 : (m : Int) ≤ 2147483647
        · have t3 : decide (2147483647 < (m : Int)) = false := by simp; omega
          have HE := Lib.hid (pnum_good true T k m hkk HD.out (by omega) (by omega) (by omega) HZ.out)
          go_wp2
          refine bodyPost_ret (v := .tuple #[vv 1 (-(m : Int)) noText, .bool true]) (by simp [results, Tryz.results160, go_sem]) rfl ⟨congrArg Ending.returned HE.out, ?_⟩
          exact (Below.refl _ _).alloc (Nat.le_refl _) _
        · have t3 : decide (2147483647 < (m : Int)) = true := by simp; omega
          have HE := Lib.hid (pnum_over true T k m hkk HD.out (by omega))
          go_wp2
          refine bodyPost_ret (v := .tuple #[vv 0 0 noText, .bool false]) (by simp [results, Tryz.results160, go_sem]) rfl ⟨congrArg Ending.returned HE.out, ?_⟩
          exact (Below.refl _ _).alloc (Nat.le_refl _) _

end Go.Proofs.YtikohamfnnlhcaaGreatDoor

namespace Go.Proofs.YtikohamfnnlhcaaGreatDoor
open Go.RowKit

theorem text_sym {s : ByteArray} (h : isName s.data.toList = true) : textV 2 0 s = s := by
  have : isRight 2 0 s = true := by simp [isRight, h]
  simp only [textV, this]; rfl
theorem atoi_num {n : Int} (h : inRng n = true) : Lib.atoiAll (itoaB n).data.toList = .ok n := by
  obtain ⟨h1, h2⟩ := inRng_iff.1 h
  have hl := itoa_len h1 h2
  show Lib.atoiAll (Lib.itoa n) = _
  rw [Lib.atoiAll_short _ (by omega), atoi_itoa]; rfl
theorem itoaB_size {n : Int} (h : inRng n = true) : (itoaB n).size ≤ 11 := by
  obtain ⟨h1, h2⟩ := inRng_iff.1 h
  have hl := itoa_len h1 h2
  show (Lib.itoa n).toArray.size ≤ 11
  simpa using hl

end Go.Proofs.YtikohamfnnlhcaaGreatDoor

namespace Go.Proofs.YtikohamfnnlhcaaGreatDoor
open Go.RowKit

theorem bl_trans : ∀ x y z : List UInt8, Op.bytesLess x y = true → Op.bytesLess y z = true → Op.bytesLess x z = true
  | _, _, [] => fun _ h => by simp [Op.bytesLess] at h
  | _, [], _ :: _ => fun h _ => by simp [Op.bytesLess] at h
  | [], _ :: _, _ :: _ => fun _ _ => rfl
  | a :: x, b :: y, c :: z => fun h1 h2 => by
    simp only [Op.bytesLess, Bool.or_eq_true, Bool.and_eq_true, decide_eq_true_eq, beq_iff_eq] at h1 h2 ⊢
    rcases h1 with h1 | ⟨rfl, h1⟩
    · rcases h2 with h2 | ⟨rfl, _⟩
      · exact .inl (UInt8.lt_trans h1 h2)
      · exact .inl h1
    · rcases h2 with h2 | ⟨rfl, h2⟩
      · exact .inl h2
      · exact .inr ⟨rfl, bl_trans x y z h1 h2⟩
theorem toList_inj {a b : ByteArray} (h : a.toList = b.toList) : a = b := by
  rw [Lib.toList_data, Lib.toList_data] at h
  cases a; cases b
  congr 1
  exact Array.toList_inj.1 h

/-- 'a stands before b'. -/
def Bef (k n : Int) (s : ByteArray) (k' n' : Int) (s' : ByteArray) : Prop := k < k' ∨ k = k' ∧ (n < n' ∨ n = n' ∧ Op.bytesLess s.toList s'.toList = true)

theorem Bef.trans {k1 n1 k2 n2 k3 n3 : Int} {s1 s2 s3 : ByteArray} (h : Bef k1 n1 s1 k2 n2 s2) (h' : Bef k2 n2 s2 k3 n3 s3) : Bef k1 n1 s1 k3 n3 s3 := by
  rcases h with h | ⟨rfl, h | ⟨rfl, h⟩⟩
  · rcases h' with h' | ⟨rfl, _⟩
    · exact .inl (by omega)
    · exact .inl h
  · rcases h' with h' | ⟨rfl, h' | ⟨rfl, _⟩⟩
    · exact .inl h'
    · exact .inr ⟨rfl, .inl (by omega)⟩
    · exact .inr ⟨rfl, .inl h⟩
  · rcases h' with h' | ⟨rfl, h' | ⟨rfl, h'⟩⟩
    · exact .inl h'
    · exact .inr ⟨rfl, .inl h'⟩
    · exact .inr ⟨rfl, .inr ⟨rfl, bl_trans _ _ _ h h'⟩⟩
end Go.Proofs.YtikohamfnnlhcaaGreatDoor

namespace Go.Proofs.YtikohamfnnlhcaaGreatDoor
open Go.RowKit

/-- the number of a text. -/
def pv (l : List UInt8) : Option Int :=
  if l.head? = some 45 then signed true (pnum true l.tail) else signed false (pnum false l)

theorem decFrom_digits : ∀ (l : List UInt8) (a b : Nat), Lib.decFrom a l = some b → ∀ c ∈ l, 48 ≤ c.toNat ∧ c.toNat ≤ 57
  | [], _, _, _, _, hc => by cases hc
  | x :: l, a, b, h, c, hc => by
    simp only [Lib.decFrom] at h
    split at h
    · rename_i d hd
      have hx : 48 ≤ x.toNat ∧ x.toNat ≤ 57 := by
        unfold Lib.digitVal at hd
        split at hd
        · assumption
        · cases hd
      rcases List.mem_cons.1 hc with rfl | hc
      · exact hx
      · exact decFrom_digits l _ _ h c hc
    · cases h
theorem decFrom_split (p : List UInt8) (c : UInt8) (m : Nat) (h : Lib.decFrom 0 (p ++ [c]) = some m) :
    ∃ q, Lib.decFrom 0 p = some q ∧ m = q * 10 + (c.toNat - 48) ∧ 48 ≤ c.toNat ∧ c.toNat ≤ 57 := by
  cases hp : Lib.decFrom 0 p with
  | none =>
    exfalso
    have hall := decFrom_digits _ _ _ h
    have key : ∀ (l : List UInt8) (a : Nat), (∀ x ∈ l, 48 ≤ x.toNat ∧ x.toNat ≤ 57) → Lib.decFrom a l ≠ none := by
      intro l
      induction l with
      | nil => intro a _ h; simp [Lib.decFrom] at h
      | cons x l ih =>
        intro a hl h
        have hx := hl x (by simp)
        have : Lib.digitVal x = some (x.toNat - 48) := by unfold Lib.digitVal; rw [if_pos hx]
        simp only [Lib.decFrom, this] at h
        exact ih _ (fun y hy => hl y (by simp [hy])) h
    exact key p 0 (fun x hx => hall x (by simp [hx])) hp
  | some q =>
    rw [decFrom_append _ _ _ _ hp] at h
    have hc : 48 ≤ c.toNat ∧ c.toNat ≤ 57 := by
      have := decFrom_digits _ _ _ h c (by simp)
      exact this
    rw [decFrom_one hc.1 hc.2] at h
    exact ⟨q, rfl, (Option.some.inj h).symm, hc⟩
theorem u8_back {c : UInt8} (h1 : 48 ≤ c.toNat) : UInt8.ofNat (48 + (c.toNat - 48)) = c := by
  have : 48 + (c.toNat - 48) = c.toNat := by omega
  rw [this]; simp
theorem dec_of : ∀ (n : Nat) (t : List UInt8) (m : Nat), t.length = n → t ≠ [] → (t = [48] ∨ t.head? ≠ some 48) → Lib.decFrom 0 t = some m → Lib.decDigits m = t := by
  intro n
  induction n with
  | zero => intro t m hl hne; exact absurd (List.eq_nil_of_length_eq_zero hl) hne
  | succ n ih =>
    intro t m hl hne hh hd
    have ht : t = t.dropLast ++ [t.getLast hne] := (List.dropLast_concat_getLast hne).symm
    generalize hp : t.dropLast = p at ht
    generalize hc : t.getLast hne = c at ht
    have hpl : p.length = n := by rw [← hp]; simp [hl]
    clear hp hc
    subst ht
    obtain ⟨q, hq, hm, c1, c2⟩ := decFrom_split p c m hd
    cases hp : p with
    | nil =>
      subst hp
      simp [Lib.decFrom] at hq
      subst hq
      have hm' : m = c.toNat - 48 := by omega
      rw [hm', Lib.decDigits_one (by omega), u8_back c1]
      rfl
    | cons a r =>
      have hne' : p ≠ [] := by rw [hp]; simp
      have hh' : p.head? ≠ some 48 := by
        rcases hh with hh | hh
        · rw [hp] at hh; simp at hh
        · rw [hp] at hh ⊢; simpa using hh
      have e := ih p q hpl hne' (.inr hh') hq
      have hq1 : 1 ≤ q := by
        rcases Nat.eq_zero_or_pos q with h0 | h0
        · exfalso
          rw [h0, Lib.decDigits_one (by omega)] at e
          rw [← e] at hh'
          simp at hh'
        · exact h0
      have hm1 : m / 10 = q := by omega
      have hm2 : m % 10 = c.toNat - 48 := by omega
      rw [dec_step (by omega), hm1, hm2, e, Lib.decDigits_one (by omega), u8_back c1, hp]
theorem head_ok {neg : Bool} {t : List UInt8} (h : ¬ (t.head? = some 48 ∧ (1 < t.length ∨ neg = true))) (hne : t ≠ []) : (t = [48] ∧ neg = false) ∨ t.head? ≠ some 48 := by
  by_cases h48 : t.head? = some 48
  · left
    have h1 : ¬ 1 < t.length := fun x => h ⟨h48, .inl x⟩
    have h2 : ¬ neg = true := fun x => h ⟨h48, .inr x⟩
    cases t with
    | nil => exact absurd rfl hne
    | cons a r =>
      simp at h1 h48
      subst h48 h1
      exact ⟨rfl, by simpa using h2⟩
  · exact .inr h48
theorem pnum_some {neg : Bool} {t : List UInt8} {m : Nat} (h : pnum neg t = some m) : m ≤ 2147483647 ∧ Lib.decDigits m = t ∧ (neg = true → 1 ≤ m) := by
  unfold pnum at h
  split at h
  · cases h
  · rename_i h1
    split at h
    · cases h
    · rename_i h2
      split at h
      · rename_i q hq
        split at h
        · rename_i hle
          obtain rfl := Option.some.inj h
          have hne : t ≠ [] := fun e => by subst e; exact h1 (.inl rfl)
          rcases head_ok h2 hne with ⟨rfl, hn⟩ | hh
          · refine ⟨hle, dec_of _ _ _ rfl hne (.inl rfl) hq, fun hn' => by rw [hn] at hn'; cases hn'⟩
          · have e := dec_of _ _ _ rfl hne (.inr hh) hq
            refine ⟨hle, e, fun _ => ?_⟩
            rcases Nat.eq_zero_or_pos q with h0 | h0
            · exfalso
              rw [h0, Lib.decDigits_one (by omega)] at e
              rw [← e] at hh
              simp at hh
            · exact h0
        · cases h
      · cases h
/-- what is read is a number whose decimal text it is. -/
theorem pv_some {l : List UInt8} {n : Int} (h : pv l = some n) : inRng n = true ∧ Lib.itoa n = l := by
  unfold pv at h
  split at h
  · rename_i hm
    obtain ⟨m, hp, hn⟩ := Option.map_eq_some_iff.1 h
    obtain ⟨h1, h2, h3⟩ := pnum_some hp
    have h3 := h3 rfl
    simp only [if_pos] at hn
    subst hn
    refine ⟨inRng_true (by omega) (by omega), ?_⟩
    unfold Lib.itoa
    rw [if_pos (by omega)]
    have : (-(m : Int)).natAbs = m := by omega
    rw [this, h2]
    cases l with
    | nil => cases hm
    | cons a r => simp at hm; subst hm; rfl
  · obtain ⟨m, hp, hn⟩ := Option.map_eq_some_iff.1 h
    obtain ⟨h1, h2, _⟩ := pnum_some hp
    simp at hn
    subst hn
    refine ⟨inRng_true (by omega) (by omega), ?_⟩
    unfold Lib.itoa
    rw [if_neg (by omega)]
    simpa using h2
theorem dec_head {u : Nat} (h : 1 ≤ u) : (Lib.decDigits u).head? ≠ some 48 := by
  induction u using Nat.strongRecOn with
  | _ u ih =>
    rw [Lib.decDigits]
    split
    · rename_i hu
      intro e
      have e := congrArg UInt8.toNat (Option.some.inj e)
      rw [u8_digit hu] at e
      have t : (48 : UInt8).toNat = 48 := rfl
      omega
    · rename_i hu
      have hne := dec_ne (u / 10)
      have := ih (u / 10) (by omega) (by omega)
      cases hd : Lib.decDigits (u / 10) with
      | nil => exact absurd hd hne
      | cons a r => rw [hd] at this; simpa using this
theorem dec_len {u : Nat} (h : u ≤ 2147483647) : (Lib.decDigits u).length ≤ 10 := by
  rw [Lib.decDigits_length]; exact nDigits_le 10 u (by omega) (by omega)
theorem dec_len0 (u : Nat) : ¬ (Lib.decDigits u).length = 0 := fun h => dec_ne u (List.eq_nil_of_length_eq_zero h)
theorem dec_head45 (u : Nat) : (Lib.decDigits u).head? ≠ some 45 := by
  have hd := dec_digits u
  cases hl : Lib.decDigits u with
  | nil => simp
  | cons a r =>
    rw [hl] at hd
    have := hd a (by simp)
    intro e
    simp at e
    subst e
    simp at this
/-- a number's decimal text is read as it. -/
theorem pv_itoa {n : Int} (h : inRng n = true) : pv (Lib.itoa n) = some n := by
  obtain ⟨h1, h2⟩ := inRng_iff.1 h
  unfold Lib.itoa
  split
  · rename_i hn
    have hl := dec_len (u := n.natAbs) (by omega)
    have hl0 := dec_len0 n.natAbs
    have hh := dec_head (u := n.natAbs) (by omega)
    have : pnum true (Lib.decDigits n.natAbs) = some n.natAbs := by
      unfold pnum
      rw [if_neg (by omega), if_neg (fun x => hh x.1), decFrom_dec]
      simp only [if_pos (show n.natAbs ≤ 2147483647 by omega)]
    simp only [pv, List.head?_cons, List.tail_cons, if_pos, this, signed, Option.map_some]
    simp; omega
  · rename_i hn
    have hl := dec_len (u := n.toNat) (by omega)
    have hl0 := dec_len0 n.toNat
    have hz : ¬ ((Lib.decDigits n.toNat).head? = some 48 ∧ (1 < (Lib.decDigits n.toNat).length ∨ false = true)) := by
      rintro ⟨x, y | y⟩
      · rcases Nat.eq_zero_or_pos n.toNat with h0 | h0
        · rw [h0, Lib.decDigits_one (by omega)] at y; simp at y
        · exact dec_head h0 x
      · cases y
    have : pnum false (Lib.decDigits n.toNat) = some n.toNat := by
      unfold pnum
      rw [if_neg (by omega), if_neg hz, decFrom_dec]
      simp only [if_pos (show n.toNat ≤ 2147483647 by omega)]
    simp only [pv, if_neg (dec_head45 _), this, signed, Option.map_some]
    simp; omega

theorem Parse_some (s : ByteArray) (w : World) (hs : s.size ≤ maxLen) (hs2 : s.size ≤ 281474976710656) (hm : isName s.data.toList = false) (n : Int) (hp : pv s.data.toList = some n) (hT : Tabs w) :
    Calls Tryz.prog 183 #[.string s] w fun e w' => e = .returned (.tuple #[vv 1 n noText, .nilIface]) ∧ Below w.heap.size w w' := by
  obtain ⟨hn, he⟩ := pv_some hp
  have hx : itoaB n = s := by
    apply ByteArray.ext
    show (Lib.itoa n).toArray = s.data
    rw [he]
  exact Parse_num s w hs hs2 hm n (by rw [← hx]; exact atoi_num hn) hn hx hT.1
theorem Parse_none (s : ByteArray) (w : World) (hs : s.size ≤ maxLen) (hs2 : s.size ≤ 281474976710656) (hm : isName s.data.toList = false) (hp : pv s.data.toList = none) (hT : Tabs w) :
    Calls Tryz.prog 183 #[.string s] w fun e w' => e = .returned (.tuple #[vv 0 0 noText, eno 2]) ∧ Below w.heap.size w w' := by
  by_cases ha : ∃ n, Lib.atoiAll s.data.toList = .ok n
  · obtain ⟨n, ha⟩ := ha
    cases hn : inRng n with
    | false => exact Parse_over s w hs hs2 hm n ha hn
    | true =>
      refine Parse_other s w hs hs2 hm n ha hn ?_ hT.1
      cases hx : (itoaB n).toList == s.toList with
      | false => rfl
      | true =>
        exfalso
        have e := toList_inj (beq_iff_eq.1 hx)
        have e2 : s.data.toList = Lib.itoa n := by rw [← e]; rfl
        rw [e2, pv_itoa hn] at hp
        cases hp
  · exact Parse_bad s w hs hs2 hm (fun n h => ha ⟨n, h⟩) hT

end Go.Proofs.YtikohamfnnlhcaaGreatDoor
