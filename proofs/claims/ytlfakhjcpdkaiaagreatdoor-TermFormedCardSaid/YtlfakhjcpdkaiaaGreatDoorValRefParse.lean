/- corollaryref01.Parse: for every text the value that has it, or none: the loop over the figures, step by step. Conditions: texts no longer than Go's longest. -/
import Derived.Test.YtlfakhjcpdkaiaaGreatDoorValDig
import Derived.Test.YtlfakhjcpdkaiaaGreatDoorValParse
import Derived.Deep.DeepCutAuto
namespace Go.Proofs.YtlfakhjcpdkaiaaGreatDoor
open Go.RowKit

/-- the number behind a sign: none if the text is no number's. -/
def pnum (neg : Bool) (t : List UInt8) : Option Nat :=
  if t.length = 0 ∨ 10 < t.length then none
  else if (t.head? = some 48 ∧ (1 < t.length ∨ neg = true)) then none
  else match Lib.decFrom 0 t with
    | some m => if m ≤ 2147483647 then some m else none
    | none => none
/-- what Parse answers. -/
def outV : Option Int → Value
  | some n => .tuple #[vv 1 n noText, .bool true]
  | none => .tuple #[vv 0 0 noText, .bool false]
def signed (neg : Bool) (o : Option Nat) : Option Int := o.map fun (m : Nat) => if neg then -(m : Int) else (m : Int)
/-- no figure 0 too many. -/
def HeadOk (neg : Bool) (T : ByteArray) : Prop := ¬ (T.data.toList.head? = some 48 ∧ (1 < T.data.toList.length ∨ neg = true))

theorem size_len (T : ByteArray) : T.data.toList.length = T.size := by simp
theorem decFrom_one {a : Nat} {c : UInt8} (h1 : 48 ≤ c.toNat) (h2 : c.toNat ≤ 57) : Lib.decFrom a [c] = some (a * 10 + (c.toNat - 48)) := by
  have : Lib.digitVal c = some (c.toNat - 48) := by unfold Lib.digitVal; rw [if_pos ⟨h1, h2⟩]
  simp only [Lib.decFrom, this]
theorem dec_more (T : ByteArray) (k m : Nat) (hk : k < T.size) (h : Lib.decFrom 0 (T.data.toList.take k) = some m) (h1 : 48 ≤ T[k].toNat) (h2 : T[k].toNat ≤ 57) :
    Lib.decFrom 0 (T.data.toList.take (k + 1)) = some (m * 10 + (T[k].toNat - 48)) := by
  rw [take_snoc T k hk, decFrom_append _ _ _ _ h, decFrom_one h1 h2]
theorem pow_more (m k d : Nat) (h : m < 10 ^ k) (hd : d ≤ 9) : m * 10 + d < 10 ^ (k + 1) := by
  rw [Nat.pow_succ]; omega
theorem decFrom_stop (l r : List UInt8) (c : UInt8) (hc : ¬ (48 ≤ c.toNat ∧ c.toNat ≤ 57)) : ∀ a b, Lib.decFrom a l = some b → Lib.decFrom a (l ++ c :: r) = none := fun a b h => by
  rw [decFrom_append _ _ _ _ h]
  have : Lib.digitVal c = none := by unfold Lib.digitVal; rw [if_neg hc]
  simp only [Lib.decFrom, this]
theorem dec_stop (T : ByteArray) (k m : Nat) (hk : k < T.size) (h : Lib.decFrom 0 (T.data.toList.take k) = some m) (hc : ¬ (48 ≤ T[k].toNat ∧ T[k].toNat ≤ 57)) : Lib.decFrom 0 T.data.toList = none := by
  have e : T.data.toList = T.data.toList.take k ++ T[k] :: T.data.toList.drop (k + 1) := by
    have h1 := List.take_append_drop (k + 1) T.data.toList
    rw [take_snoc T k hk] at h1
    simpa using h1.symm
  rw [e]
  exact decFrom_stop _ _ _ hc _ _ h
theorem pnum_none {neg : Bool} {t : List UInt8} (h : Lib.decFrom 0 t = none) : pnum neg t = none := by
  unfold pnum
  split
  · rfl
  · split
    · rfl
    · rw [h]
theorem pnum_stop (neg : Bool) (T : ByteArray) (k m : Nat) (hk : k < T.size) (h : Lib.decFrom 0 (T.data.toList.take k) = some m) (hc : ¬ (48 ≤ T[k].toNat ∧ T[k].toNat ≤ 57)) :
    (Value.tuple #[vv 0 0 noText, .bool false]) = outV (signed neg (pnum neg T.data.toList)) := by
  rw [pnum_none (dec_stop T k m hk h hc)]; rfl
theorem dec_all {T : ByteArray} {k m : Nat} (hk : T.size ≤ k) (h : Lib.decFrom 0 (T.data.toList.take k) = some m) : Lib.decFrom 0 T.data.toList = some m := by
  rwa [List.take_of_length_le (by simpa using hk)] at h
theorem pnum_over (neg : Bool) (T : ByteArray) (k m : Nat) (hk : T.size ≤ k) (h : Lib.decFrom 0 (T.data.toList.take k) = some m) (hm : ¬ m ≤ 2147483647) :
    (Value.tuple #[vv 0 0 noText, .bool false]) = outV (signed neg (pnum neg T.data.toList)) := by
  have : pnum neg T.data.toList = none := by
    unfold pnum
    split
    · rfl
    · split
      · rfl
      · rw [dec_all hk h]; simp only [if_neg hm]
  rw [this]; rfl
theorem pnum_good (neg : Bool) (T : ByteArray) (k m : Nat) (hk : T.size ≤ k) (h : Lib.decFrom 0 (T.data.toList.take k) = some m) (hm : m ≤ 2147483647) (h0 : ¬ T.size = 0) (h10 : ¬ 10 < T.size) (hz : HeadOk neg T) :
    (Value.tuple #[vv 1 (if neg then -(m : Int) else (m : Int)) noText, .bool true]) = outV (signed neg (pnum neg T.data.toList)) := by
  have : pnum neg T.data.toList = some m := by
    unfold pnum
    rw [if_neg (by rw [size_len]; omega), if_neg hz, dec_all hk h]
    simp only [if_pos hm]
  rw [this]; rfl
theorem pnum_len (neg : Bool) (T : ByteArray) (h : T.size = 0 ∨ 10 < T.size) : (Value.tuple #[vv 0 0 noText, .bool false]) = outV (signed neg (pnum neg T.data.toList)) := by
  have : pnum neg T.data.toList = none := by unfold pnum; rw [if_pos (by rw [size_len]; exact h)]
  rw [this]; rfl
theorem pnum_head (neg : Bool) (T : ByteArray) (h : ¬ HeadOk neg T) : (Value.tuple #[vv 0 0 noText, .bool false]) = outV (signed neg (pnum neg T.data.toList)) := by
  have : pnum neg T.data.toList = none := by
    unfold pnum
    split
    · rfl
    · rw [if_pos (Classical.not_not.1 h)]
  rw [this]; rfl

set_option maxHeartbeats 2000000 in
theorem ref_pos_long (s : ByteArray) (w : World) (hs : s.size ≤ maxLen) (hm : isName s.data.toList = false) (hT : s.size ≤ maxLen) (h0 : 0 < s.size) (h45 : ((s[0].toNat : Int) == 45) = false) (hl : 10 < (s.size : Int)) :
    Calls Tryz.prog 100 #[.string s] w fun e w' => e = .returned (outV (signed false (pnum false s.data.toList))) ∧ Below w.heap.size w w' := by
  have hT' := hT
  unfold maxLen at hT'
  have HM := Lib.hid hm
  clear hm
  have hzz : ((s.size : Int) == 0) = false := beq_eq_false_iff_ne.2 (by omega)
  have hz2 : ¬ s = ByteArray.empty := fun h => by subst h; simp at h0
  go_enter Tryz.func100, Tryz.ntmps100
  go_wp2_with fail
  refine (refName_is _ _ HM.out hs _).mono ?_
  rintro e w1 ⟨rfl, rfl⟩
  go_upto_if 20 with fail
  go_cut [4, 5] (fun s4 s5 wx => s4 = .string s ∧ s5 = .int .i64 1 ∧ wx = w.alloc (.cells #[.int .i64 0, .int .i64 0, .string noText] 39))
  case first =>
    go_wp2_with fail
    go_meet
    exact ⟨rfl, rfl, rfl⟩
  case rest =>
    obtain ⟨rfl, rfl, rfl⟩ := hcut
    have d1 : decide (10 < (s.size : Int)) = true := by simp; omega
    have HE := Lib.hid (pnum_len false s (by omega))
    go_wp2
    refine bodyPost_ret (v := .tuple #[vv 0 0 noText, .bool false]) (by simp [results, Tryz.results100, go_sem]) rfl ⟨congrArg Ending.returned HE.out, ?_⟩
    exact (Below.refl _ _).alloc (Nat.le_refl _) _

set_option maxHeartbeats 2000000 in
theorem ref_pos_zero (s : ByteArray) (w : World) (hs : s.size ≤ maxLen) (hm : isName s.data.toList = false) (hT : s.size ≤ maxLen) (h0 : 0 < s.size) (h45 : ((s[0].toNat : Int) == 45) = false) (hl : (s.size : Int) ≤ 10) (h48 : ((s[0].toNat : Int) == 48) = true) (h1 : 1 < (s.size : Int)) (hz : ¬ HeadOk false s) :
    Calls Tryz.prog 100 #[.string s] w fun e w' => e = .returned (outV (signed false (pnum false s.data.toList))) ∧ Below w.heap.size w w' := by
  have hT' := hT
  unfold maxLen at hT'
  have HM := Lib.hid hm
  clear hm
  have hzz : ((s.size : Int) == 0) = false := beq_eq_false_iff_ne.2 (by omega)
  have hz2 : ¬ s = ByteArray.empty := fun h => by subst h; simp at h0
  go_enter Tryz.func100, Tryz.ntmps100
  go_wp2_with fail
  refine (refName_is _ _ HM.out hs _).mono ?_
  rintro e w1 ⟨rfl, rfl⟩
  go_upto_if 20 with fail
  go_cut [4, 5] (fun s4 s5 wx => s4 = .string s ∧ s5 = .int .i64 1 ∧ wx = w.alloc (.cells #[.int .i64 0, .int .i64 0, .string noText] 39))
  case first =>
    go_wp2_with fail
    go_meet
    exact ⟨rfl, rfl, rfl⟩
  case rest =>
    obtain ⟨rfl, rfl, rfl⟩ := hcut
    have HZ := Lib.hid hz
    clear hz
    have d1 : decide (10 < (s.size : Int)) = false := by simp; omega
    have d2 : decide (1 < (s.size : Int)) = true := by simp; omega
    have HE := Lib.hid (pnum_head false s HZ.out)
    go_wp2
    refine bodyPost_ret (v := .tuple #[vv 0 0 noText, .bool false]) (by simp [results, Tryz.results100, go_sem]) rfl ⟨congrArg Ending.returned HE.out, ?_⟩
    exact (Below.refl _ _).alloc (Nat.le_refl _) _

set_option maxHeartbeats 2000000 in
theorem ref_pos_one (s : ByteArray) (w : World) (hs : s.size ≤ maxLen) (hm : isName s.data.toList = false) (hT : s.size ≤ maxLen) (h0 : 0 < s.size) (h45 : ((s[0].toNat : Int) == 45) = false) (hl : (s.size : Int) ≤ 10) (h48 : ((s[0].toNat : Int) == 48) = true) (h1 : (s.size : Int) ≤ 1) (hz : HeadOk false s) :
    Calls Tryz.prog 100 #[.string s] w fun e w' => e = .returned (outV (signed false (pnum false s.data.toList))) ∧ Below w.heap.size w w' := by
  have hT' := hT
  unfold maxLen at hT'
  have HM := Lib.hid hm
  clear hm
  have hzz : ((s.size : Int) == 0) = false := beq_eq_false_iff_ne.2 (by omega)
  have hz2 : ¬ s = ByteArray.empty := fun h => by subst h; simp at h0
  go_enter Tryz.func100, Tryz.ntmps100
  go_wp2_with fail
  refine (refName_is _ _ HM.out hs _).mono ?_
  rintro e w1 ⟨rfl, rfl⟩
  go_upto_if 20 with fail
  go_cut [4, 5] (fun s4 s5 wx => s4 = .string s ∧ s5 = .int .i64 1 ∧ wx = w.alloc (.cells #[.int .i64 0, .int .i64 0, .string noText] 39))
  case first =>
    go_wp2_with fail
    go_meet
    exact ⟨rfl, rfl, rfl⟩
  case rest =>
    obtain ⟨rfl, rfl, rfl⟩ := hcut
    have HZ := Lib.hid hz
    clear hz
    have d1 : decide (10 < (s.size : Int)) = false := by simp; omega
    have d2 : decide (1 < (s.size : Int)) = false := by simp; omega
    go_wp2
    go_loop [6, 7] (fun n i => ∃ k m : Nat, k ≤ s.size ∧ i = .int .i64 k ∧ n = .int .i64 m ∧ Hid (Lib.decFrom 0 (s.data.toList.take k) = some m) ∧ m < 10 ^ k) (fun _ i => s.size - (intOf i).toNat)
    case atStart => exact ⟨0, 0, Nat.zero_le _, rfl, rfl, rfl, by decide⟩
    case round =>
      obtain ⟨k, m, hk, rfl, rfl, HD, hb⟩ := hrel
      by_cases hlt : k < s.size
      · have hb9 : m < 1000000000 := Nat.lt_of_lt_of_le hb (Nat.le_trans (Nat.pow_le_pow_right (by decide) (by omega : k ≤ 9)) (by decide))
        by_cases h1 : 48 ≤ (s[k].toNat : Int)
        · have t1 : decide ((s[k].toNat : Int) < 48) = false := by simp; omega
          by_cases h2 : (s[k].toNat : Int) ≤ 57
          · have t2 : decide (57 < (s[k].toNat : Int)) = false := by simp; omega
            have HS := Lib.hid (dec_more s k m hlt HD.out (by omega) (by omega))
            have hb' := pow_more m k (s[k].toNat - 48) hb (by omega)
            go_wp2
            go_round
            case rel => exact ⟨k + 1, m * 10 + (s[k].toNat - 48), by omega, by go_num, congrArg (Value.int IntKind.i64) (by omega), HS.out, hb'⟩
            case measure => simp [intOf]; omega
          · have t2 : decide (57 < (s[k].toNat : Int)) = true := by simp; omega
            have HE := Lib.hid (pnum_stop false s k m hlt HD.out (by omega))
            go_wp2
            refine bodyPost_ret (v := .tuple #[vv 0 0 noText, .bool false]) (by simp [results, Tryz.results100, go_sem]) rfl ⟨congrArg Ending.returned HE.out, ?_⟩
            exact (Below.refl _ _).alloc (Nat.le_refl _) _
        · have t1 : decide ((s[k].toNat : Int) < 48) = true := by simp; omega
          have HE := Lib.hid (pnum_stop false s k m hlt HD.out (by omega))
          go_wp2
          refine bodyPost_ret (v := .tuple #[vv 0 0 noText, .bool false]) (by simp [results, Tryz.results100, go_sem]) rfl ⟨congrArg Ending.returned HE.out, ?_⟩
          exact (Below.refl _ _).alloc (Nat.le_refl _) _
      · have hb10 : m < 10000000000 := Nat.lt_of_lt_of_le hb (Nat.le_trans (Nat.pow_le_pow_right (by decide) (by omega : k ≤ 10)) (by decide))
        have hkk : s.size ≤ k := by omega
        by_cases h3 : (m : Int) ≤ 2147483647
        · have t3 : decide (2147483647 < (m : Int)) = false := by simp; omega
          have HE := Lib.hid (pnum_good false s k m hkk HD.out (by omega) (by omega) (by omega) HZ.out)
          go_wp2
          refine bodyPost_ret (v := .tuple #[vv 1 ((m : Int)) noText, .bool true]) (by simp [results, Tryz.results100, go_sem]) rfl ⟨congrArg Ending.returned HE.out, ?_⟩
          exact (Below.refl _ _).alloc (Nat.le_refl _) _
        · have t3 : decide (2147483647 < (m : Int)) = true := by simp; omega
          have HE := Lib.hid (pnum_over false s k m hkk HD.out (by omega))
          go_wp2
          refine bodyPost_ret (v := .tuple #[vv 0 0 noText, .bool false]) (by simp [results, Tryz.results100, go_sem]) rfl ⟨congrArg Ending.returned HE.out, ?_⟩
          exact (Below.refl _ _).alloc (Nat.le_refl _) _

set_option maxHeartbeats 2000000 in
theorem ref_pos_loop (s : ByteArray) (w : World) (hs : s.size ≤ maxLen) (hm : isName s.data.toList = false) (hT : s.size ≤ maxLen) (h0 : 0 < s.size) (h45 : ((s[0].toNat : Int) == 45) = false) (hl : (s.size : Int) ≤ 10) (h48 : ((s[0].toNat : Int) == 48) = false) (hz : HeadOk false s) :
    Calls Tryz.prog 100 #[.string s] w fun e w' => e = .returned (outV (signed false (pnum false s.data.toList))) ∧ Below w.heap.size w w' := by
  have hT' := hT
  unfold maxLen at hT'
  have HM := Lib.hid hm
  clear hm
  have hzz : ((s.size : Int) == 0) = false := beq_eq_false_iff_ne.2 (by omega)
  have hz2 : ¬ s = ByteArray.empty := fun h => by subst h; simp at h0
  go_enter Tryz.func100, Tryz.ntmps100
  go_wp2_with fail
  refine (refName_is _ _ HM.out hs _).mono ?_
  rintro e w1 ⟨rfl, rfl⟩
  go_upto_if 20 with fail
  go_cut [4, 5] (fun s4 s5 wx => s4 = .string s ∧ s5 = .int .i64 1 ∧ wx = w.alloc (.cells #[.int .i64 0, .int .i64 0, .string noText] 39))
  case first =>
    go_wp2_with fail
    go_meet
    exact ⟨rfl, rfl, rfl⟩
  case rest =>
    obtain ⟨rfl, rfl, rfl⟩ := hcut
    have HZ := Lib.hid hz
    clear hz
    have d1 : decide (10 < (s.size : Int)) = false := by simp; omega
    go_wp2
    go_loop [6, 7] (fun n i => ∃ k m : Nat, k ≤ s.size ∧ i = .int .i64 k ∧ n = .int .i64 m ∧ Hid (Lib.decFrom 0 (s.data.toList.take k) = some m) ∧ m < 10 ^ k) (fun _ i => s.size - (intOf i).toNat)
    case atStart => exact ⟨0, 0, Nat.zero_le _, rfl, rfl, rfl, by decide⟩
    case round =>
      obtain ⟨k, m, hk, rfl, rfl, HD, hb⟩ := hrel
      by_cases hlt : k < s.size
      · have hb9 : m < 1000000000 := Nat.lt_of_lt_of_le hb (Nat.le_trans (Nat.pow_le_pow_right (by decide) (by omega : k ≤ 9)) (by decide))
        by_cases h1 : 48 ≤ (s[k].toNat : Int)
        · have t1 : decide ((s[k].toNat : Int) < 48) = false := by simp; omega
          by_cases h2 : (s[k].toNat : Int) ≤ 57
          · have t2 : decide (57 < (s[k].toNat : Int)) = false := by simp; omega
            have HS := Lib.hid (dec_more s k m hlt HD.out (by omega) (by omega))
            have hb' := pow_more m k (s[k].toNat - 48) hb (by omega)
            go_wp2
            go_round
            case rel => exact ⟨k + 1, m * 10 + (s[k].toNat - 48), by omega, by go_num, congrArg (Value.int IntKind.i64) (by omega), HS.out, hb'⟩
            case measure => simp [intOf]; omega
          · have t2 : decide (57 < (s[k].toNat : Int)) = true := by simp; omega
            have HE := Lib.hid (pnum_stop false s k m hlt HD.out (by omega))
            go_wp2
            refine bodyPost_ret (v := .tuple #[vv 0 0 noText, .bool false]) (by simp [results, Tryz.results100, go_sem]) rfl ⟨congrArg Ending.returned HE.out, ?_⟩
            exact (Below.refl _ _).alloc (Nat.le_refl _) _
        · have t1 : decide ((s[k].toNat : Int) < 48) = true := by simp; omega
          have HE := Lib.hid (pnum_stop false s k m hlt HD.out (by omega))
          go_wp2
          refine bodyPost_ret (v := .tuple #[vv 0 0 noText, .bool false]) (by simp [results, Tryz.results100, go_sem]) rfl ⟨congrArg Ending.returned HE.out, ?_⟩
          exact (Below.refl _ _).alloc (Nat.le_refl _) _
      · have hb10 : m < 10000000000 := Nat.lt_of_lt_of_le hb (Nat.le_trans (Nat.pow_le_pow_right (by decide) (by omega : k ≤ 10)) (by decide))
        have hkk : s.size ≤ k := by omega
        by_cases h3 : (m : Int) ≤ 2147483647
        · have t3 : decide (2147483647 < (m : Int)) = false := by simp; omega
          have HE := Lib.hid (pnum_good false s k m hkk HD.out (by omega) (by omega) (by omega) HZ.out)
          go_wp2
          refine bodyPost_ret (v := .tuple #[vv 1 ((m : Int)) noText, .bool true]) (by simp [results, Tryz.results100, go_sem]) rfl ⟨congrArg Ending.returned HE.out, ?_⟩
          exact (Below.refl _ _).alloc (Nat.le_refl _) _
        · have t3 : decide (2147483647 < (m : Int)) = true := by simp; omega
          have HE := Lib.hid (pnum_over false s k m hkk HD.out (by omega))
          go_wp2
          refine bodyPost_ret (v := .tuple #[vv 0 0 noText, .bool false]) (by simp [results, Tryz.results100, go_sem]) rfl ⟨congrArg Ending.returned HE.out, ?_⟩
          exact (Below.refl _ _).alloc (Nat.le_refl _) _

set_option maxHeartbeats 2000000 in
theorem ref_empty  (w : World) (hs : noText.size ≤ maxLen) (hm : isName noText.data.toList = false) (hT : noText.size ≤ maxLen)  :
    Calls Tryz.prog 100 #[.string noText] w fun e w' => e = .returned (outV (signed false (pnum false noText.data.toList))) ∧ Below w.heap.size w w' := by
  have hT' := hT
  unfold maxLen at hT'
  have HM := Lib.hid hm
  clear hm
  go_enter Tryz.func100, Tryz.ntmps100
  go_wp2_with fail
  refine (refName_is _ _ HM.out hs _).mono ?_
  rintro e w1 ⟨rfl, rfl⟩
  go_upto_if 20 with fail
  go_cut [4, 5] (fun s4 s5 wx => s4 = .string noText ∧ s5 = .int .i64 1 ∧ wx = w.alloc (.cells #[.int .i64 0, .int .i64 0, .string noText] 39))
  case first =>
    go_wp2_with fail
    go_meet
    exact ⟨rfl, rfl, rfl⟩
  case rest =>
    obtain ⟨rfl, rfl, rfl⟩ := hcut
    have HE := Lib.hid (pnum_len false noText (Or.inl rfl))
    go_wp2
    refine bodyPost_ret (v := .tuple #[vv 0 0 noText, .bool false]) (by simp [results, Tryz.results100, go_sem]) rfl ⟨congrArg Ending.returned HE.out, ?_⟩
    exact (Below.refl _ _).alloc (Nat.le_refl _) _

set_option maxHeartbeats 2000000 in
theorem ref_neg_none (s T : ByteArray) (w : World) (hs : s.size ≤ maxLen) (hm : isName s.data.toList = false) (hT : T.size ≤ maxLen) (h0 : 0 < s.size) (h45 : ((s[0].toNat : Int) == 45) = true) (hte : s.extract 1 s.size = T) (hl : T.size = 0) :
    Calls Tryz.prog 100 #[.string s] w fun e w' => e = .returned (outV (signed true (pnum true T.data.toList))) ∧ Below w.heap.size w w' := by
  have hT' := hT
  unfold maxLen at hT'
  have HM := Lib.hid hm
  clear hm
  have hzz : ((s.size : Int) == 0) = false := beq_eq_false_iff_ne.2 (by omega)
  have hz2 : ¬ s = ByteArray.empty := fun h => by subst h; simp at h0
  have HTE := Lib.hid hte
  clear hte
  go_enter Tryz.func100, Tryz.ntmps100
  go_wp2_with fail
  refine (refName_is _ _ HM.out hs _).mono ?_
  rintro e w1 ⟨rfl, rfl⟩
  go_upto_if 20 with fail
  go_cut [4, 5] (fun s4 s5 wx => s4 = .string T ∧ s5 = .int .i64 (-1) ∧ wx = w.alloc (.cells #[.int .i64 0, .int .i64 0, .string noText] 39))
  case first =>
    go_wp2_with fail
    go_meet
    exact ⟨by rw [HTE.out], rfl, rfl⟩
  case rest =>
    obtain ⟨rfl, rfl, rfl⟩ := hcut
    have hzzT : ((T.size : Int) == 0) = true := beq_iff_eq.2 (by omega)
    have hle := Lib.hid hl
    clear hl
    have HE := Lib.hid (pnum_len true T (Or.inl hle.out))
    go_wp2
    refine bodyPost_ret (v := .tuple #[vv 0 0 noText, .bool false]) (by simp [results, Tryz.results100, go_sem]) rfl ⟨congrArg Ending.returned HE.out, ?_⟩
    exact (Below.refl _ _).alloc (Nat.le_refl _) _

set_option maxHeartbeats 2000000 in
theorem ref_neg_long (s T : ByteArray) (w : World) (hs : s.size ≤ maxLen) (hm : isName s.data.toList = false) (hT : T.size ≤ maxLen) (h0 : 0 < s.size) (h45 : ((s[0].toNat : Int) == 45) = true) (hte : s.extract 1 s.size = T) (h0T : 0 < T.size) (hl : 10 < (T.size : Int)) :
    Calls Tryz.prog 100 #[.string s] w fun e w' => e = .returned (outV (signed true (pnum true T.data.toList))) ∧ Below w.heap.size w w' := by
  have hT' := hT
  unfold maxLen at hT'
  have HM := Lib.hid hm
  clear hm
  have hzz : ((s.size : Int) == 0) = false := beq_eq_false_iff_ne.2 (by omega)
  have hz2 : ¬ s = ByteArray.empty := fun h => by subst h; simp at h0
  have HTE := Lib.hid hte
  clear hte
  go_enter Tryz.func100, Tryz.ntmps100
  go_wp2_with fail
  refine (refName_is _ _ HM.out hs _).mono ?_
  rintro e w1 ⟨rfl, rfl⟩
  go_upto_if 20 with fail
  go_cut [4, 5] (fun s4 s5 wx => s4 = .string T ∧ s5 = .int .i64 (-1) ∧ wx = w.alloc (.cells #[.int .i64 0, .int .i64 0, .string noText] 39))
  case first =>
    go_wp2_with fail
    go_meet
    exact ⟨by rw [HTE.out], rfl, rfl⟩
  case rest =>
    obtain ⟨rfl, rfl, rfl⟩ := hcut
    have hzzT : ((T.size : Int) == 0) = false := beq_eq_false_iff_ne.2 (by omega)
    have hzT2 : ¬ T = ByteArray.empty := fun h => by subst h; simp at h0T
    have d1 : decide (10 < (T.size : Int)) = true := by simp; omega
    have HE := Lib.hid (pnum_len true T (by omega))
    go_wp2
    refine bodyPost_ret (v := .tuple #[vv 0 0 noText, .bool false]) (by simp [results, Tryz.results100, go_sem]) rfl ⟨congrArg Ending.returned HE.out, ?_⟩
    exact (Below.refl _ _).alloc (Nat.le_refl _) _

set_option maxHeartbeats 2000000 in
theorem ref_neg_zero (s T : ByteArray) (w : World) (hs : s.size ≤ maxLen) (hm : isName s.data.toList = false) (hT : T.size ≤ maxLen) (h0 : 0 < s.size) (h45 : ((s[0].toNat : Int) == 45) = true) (hte : s.extract 1 s.size = T) (h0T : 0 < T.size) (hl : (T.size : Int) ≤ 10) (h48 : ((T[0].toNat : Int) == 48) = true) (hz : ¬ HeadOk true T) :
    Calls Tryz.prog 100 #[.string s] w fun e w' => e = .returned (outV (signed true (pnum true T.data.toList))) ∧ Below w.heap.size w w' := by
  have hT' := hT
  unfold maxLen at hT'
  have HM := Lib.hid hm
  clear hm
  have hzz : ((s.size : Int) == 0) = false := beq_eq_false_iff_ne.2 (by omega)
  have hz2 : ¬ s = ByteArray.empty := fun h => by subst h; simp at h0
  have HTE := Lib.hid hte
  clear hte
  go_enter Tryz.func100, Tryz.ntmps100
  go_wp2_with fail
  refine (refName_is _ _ HM.out hs _).mono ?_
  rintro e w1 ⟨rfl, rfl⟩
  go_upto_if 20 with fail
  go_cut [4, 5] (fun s4 s5 wx => s4 = .string T ∧ s5 = .int .i64 (-1) ∧ wx = w.alloc (.cells #[.int .i64 0, .int .i64 0, .string noText] 39))
  case first =>
    go_wp2_with fail
    go_meet
    exact ⟨by rw [HTE.out], rfl, rfl⟩
  case rest =>
    obtain ⟨rfl, rfl, rfl⟩ := hcut
    have HZ := Lib.hid hz
    clear hz
    have hzzT : ((T.size : Int) == 0) = false := beq_eq_false_iff_ne.2 (by omega)
    have hzT2 : ¬ T = ByteArray.empty := fun h => by subst h; simp at h0T
    have d1 : decide (10 < (T.size : Int)) = false := by simp; omega
    by_cases h1 : 1 < (T.size : Int)
    · have d2 : decide (1 < (T.size : Int)) = true := by simp; omega
      have HE := Lib.hid (pnum_head true T HZ.out)
      go_wp2
      refine bodyPost_ret (v := .tuple #[vv 0 0 noText, .bool false]) (by simp [results, Tryz.results100, go_sem]) rfl ⟨congrArg Ending.returned HE.out, ?_⟩
      exact (Below.refl _ _).alloc (Nat.le_refl _) _
    · have d2 : decide (1 < (T.size : Int)) = false := by simp; omega
      have HE := Lib.hid (pnum_head true T HZ.out)
      go_wp2
      refine bodyPost_ret (v := .tuple #[vv 0 0 noText, .bool false]) (by simp [results, Tryz.results100, go_sem]) rfl ⟨congrArg Ending.returned HE.out, ?_⟩
      exact (Below.refl _ _).alloc (Nat.le_refl _) _

set_option maxHeartbeats 2000000 in
theorem ref_neg_loop (s T : ByteArray) (w : World) (hs : s.size ≤ maxLen) (hm : isName s.data.toList = false) (hT : T.size ≤ maxLen) (h0 : 0 < s.size) (h45 : ((s[0].toNat : Int) == 45) = true) (hte : s.extract 1 s.size = T) (h0T : 0 < T.size) (hl : (T.size : Int) ≤ 10) (h48 : ((T[0].toNat : Int) == 48) = false) (hz : HeadOk true T) :
    Calls Tryz.prog 100 #[.string s] w fun e w' => e = .returned (outV (signed true (pnum true T.data.toList))) ∧ Below w.heap.size w w' := by
  have hT' := hT
  unfold maxLen at hT'
  have HM := Lib.hid hm
  clear hm
  have hzz : ((s.size : Int) == 0) = false := beq_eq_false_iff_ne.2 (by omega)
  have hz2 : ¬ s = ByteArray.empty := fun h => by subst h; simp at h0
  have HTE := Lib.hid hte
  clear hte
  go_enter Tryz.func100, Tryz.ntmps100
  go_wp2_with fail
  refine (refName_is _ _ HM.out hs _).mono ?_
  rintro e w1 ⟨rfl, rfl⟩
  go_upto_if 20 with fail
  go_cut [4, 5] (fun s4 s5 wx => s4 = .string T ∧ s5 = .int .i64 (-1) ∧ wx = w.alloc (.cells #[.int .i64 0, .int .i64 0, .string noText] 39))
  case first =>
    go_wp2_with fail
    go_meet
    exact ⟨by rw [HTE.out], rfl, rfl⟩
  case rest =>
    obtain ⟨rfl, rfl, rfl⟩ := hcut
    have HZ := Lib.hid hz
    clear hz
    have hzzT : ((T.size : Int) == 0) = false := beq_eq_false_iff_ne.2 (by omega)
    have hzT2 : ¬ T = ByteArray.empty := fun h => by subst h; simp at h0T
    have d1 : decide (10 < (T.size : Int)) = false := by simp; omega
    go_wp2
    go_loop [6, 7] (fun n i => ∃ k m : Nat, k ≤ T.size ∧ i = .int .i64 k ∧ n = .int .i64 m ∧ Hid (Lib.decFrom 0 (T.data.toList.take k) = some m) ∧ m < 10 ^ k) (fun _ i => T.size - (intOf i).toNat)
    case atStart => exact ⟨0, 0, Nat.zero_le _, rfl, rfl, rfl, by decide⟩
    case round =>
      obtain ⟨k, m, hk, rfl, rfl, HD, hb⟩ := hrel
      by_cases hlt : k < T.size
      · have hb9 : m < 1000000000 := Nat.lt_of_lt_of_le hb (Nat.le_trans (Nat.pow_le_pow_right (by decide) (by omega : k ≤ 9)) (by decide))
        by_cases h1 : 48 ≤ (T[k].toNat : Int)
        · have t1 : decide ((T[k].toNat : Int) < 48) = false := by simp; omega
          by_cases h2 : (T[k].toNat : Int) ≤ 57
          · have t2 : decide (57 < (T[k].toNat : Int)) = false := by simp; omega
            have HS := Lib.hid (dec_more T k m hlt HD.out (by omega) (by omega))
            have hb' := pow_more m k (T[k].toNat - 48) hb (by omega)
            go_wp2
            go_round
            case rel => exact ⟨k + 1, m * 10 + (T[k].toNat - 48), by omega, by go_num, congrArg (Value.int IntKind.i64) (by omega), HS.out, hb'⟩
            case measure => simp [intOf]; omega
          · have t2 : decide (57 < (T[k].toNat : Int)) = true := by simp; omega
            have HE := Lib.hid (pnum_stop true T k m hlt HD.out (by omega))
            go_wp2
            refine bodyPost_ret (v := .tuple #[vv 0 0 noText, .bool false]) (by simp [results, Tryz.results100, go_sem]) rfl ⟨congrArg Ending.returned HE.out, ?_⟩
            exact (Below.refl _ _).alloc (Nat.le_refl _) _
        · have t1 : decide ((T[k].toNat : Int) < 48) = true := by simp; omega
          have HE := Lib.hid (pnum_stop true T k m hlt HD.out (by omega))
          go_wp2
          refine bodyPost_ret (v := .tuple #[vv 0 0 noText, .bool false]) (by simp [results, Tryz.results100, go_sem]) rfl ⟨congrArg Ending.returned HE.out, ?_⟩
          exact (Below.refl _ _).alloc (Nat.le_refl _) _
      · have hb10 : m < 10000000000 := Nat.lt_of_lt_of_le hb (Nat.le_trans (Nat.pow_le_pow_right (by decide) (by omega : k ≤ 10)) (by decide))
        have hkk : T.size ≤ k := by omega
        by_cases h3 : (m : Int) ≤ 2147483647
        · have t3 : decide (2147483647 < (m : Int)) = false := by simp; omega
          have HE := Lib.hid (pnum_good true T k m hkk HD.out (by omega) (by omega) (by omega) HZ.out)
          go_wp2
          refine bodyPost_ret (v := .tuple #[vv 1 (-(m : Int)) noText, .bool true]) (by simp [results, Tryz.results100, go_sem]) rfl ⟨congrArg Ending.returned HE.out, ?_⟩
          exact (Below.refl _ _).alloc (Nat.le_refl _) _
        · have t3 : decide (2147483647 < (m : Int)) = true := by simp; omega
          have HE := Lib.hid (pnum_over true T k m hkk HD.out (by omega))
          go_wp2
          refine bodyPost_ret (v := .tuple #[vv 0 0 noText, .bool false]) (by simp [results, Tryz.results100, go_sem]) rfl ⟨congrArg Ending.returned HE.out, ?_⟩
          exact (Below.refl _ _).alloc (Nat.le_refl _) _

end Go.Proofs.YtlfakhjcpdkaiaaGreatDoor
