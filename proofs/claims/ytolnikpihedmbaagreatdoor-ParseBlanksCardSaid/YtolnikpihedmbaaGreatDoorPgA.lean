/- Which texts are names: value.Name and corollaryref01.Name give the same, for every text no longer than Go's longest. What package value's Of, Symbol and Right give, and what corollaryref01.Right and Less, corollarynum.Num and Is give. Conditions: texts no longer than Go's longest. corollaryref01.Parse: for every text the value that has it, or none: the loop over the figures, step by step. Conditions: texts no longer than Go's longest. -/
import Derived.Test.YtolnikpihedmbaaGreatDoorPbA
import Derived.Test.YtolnikpihedmbaaGreatDoorRows
import Derived.Test.YtolnikpihedmbaaGreatDoorPbB
import Derived.Test.YtolnikpihedmbaaGreatDoorShelf
import Derived.Test.YtolnikpihedmbaaGreatDoorShelfA
import Derived.Lib.Hide
import Derived.Handy
import Derived.Lib.Strings
import Derived.Deep.DeepCutAuto
namespace Go.Proofs.YtolnikpihedmbaaGreatDoor
open Go.RowKit

theorem ok_next (s : ByteArray) (k : Nat) (h : k < s.size) (hp : okFrom (s.data.toList.take k) = true) : okFrom (s.data.toList.take (k + 1)) = if ((k : Int) == 0) = true then isLet s[k] else okc s[k] := by
  rw [take_snoc s k h, okFrom_snoc, hp, take_empty s k (by omega)]
  by_cases h0 : k = 0
  · subst h0; simp
  · have h1 : ((k : Int) == 0) = false := by simp; omega
    have : decide (k = 0) = false := by simp; omega
    rw [this, h1]; simp
theorem isLet_mk {c : UInt8} (h1 : 97 ≤ (c.toNat : Int)) (h2 : (c.toNat : Int) ≤ 122) : isLet c = true := by simp only [isLet, h1, h2]; rfl
theorem isLet_lo {c : UInt8} (h1 : ¬ 97 ≤ (c.toNat : Int)) : isLet c = false := by simp only [isLet, h1]; rfl
theorem isLet_hi {c : UInt8} (h1 : ¬ (c.toNat : Int) ≤ 122) : isLet c = false := by simp only [isLet, h1, decide_false, Bool.and_false]
theorem isDig_mk {c : UInt8} (h1 : 48 ≤ (c.toNat : Int)) (h2 : (c.toNat : Int) ≤ 57) : isDig c = true := by simp only [isDig, h1, h2]; rfl
theorem isDig_lo {c : UInt8} (h1 : ¬ 48 ≤ (c.toNat : Int)) : isDig c = false := by simp only [isDig, h1]; rfl
theorem isDig_hi {c : UInt8} (h1 : ¬ (c.toNat : Int) ≤ 57) : isDig c = false := by simp only [isDig, h1, decide_false, Bool.and_false]
theorem okc_iff_letter {k : Nat} {c : UInt8} (h : isLet c = true) : (if ((k : Int) == 0) = true then isLet c else okc c) = true := by rw [okc_letter h, h]; simp
theorem okc_iff_zero {k : Nat} {c : UInt8} (hk : ((k : Int) == 0) = true) (h : isLet c = false) : (if ((k : Int) == 0) = true then isLet c else okc c) = false := by rw [hk, h]; simp
theorem okc_iff_more {k : Nat} {c : UInt8} {b : Bool} (hk : ((k : Int) == 0) = false) (h : okc c = b) : (if ((k : Int) == 0) = true then isLet c else okc c) = b := by rw [hk, h]; simp

set_option maxHeartbeats 2000000 in
theorem refName_any (s : ByteArray) (w : World) (hs : s.size ≤ maxLen) :
    Calls Tryz.prog 62 #[.string s] w fun e w' => e = .returned (.bool (isName s.data.toList)) ∧ w = w' := by
  unfold maxLen at hs
  go_enter Tryz.func62, Tryz.ntmps62
  go_wp2
  go_loop [3] (fun i => ∃ k : Nat, k ≤ s.size ∧ Hid (okFrom (s.data.toList.take k) = true) ∧ i = .int .i64 k) (fun i => s.size - (intOf i).toNat)
  case atStart => exact ⟨0, Nat.zero_le _, rfl, rfl⟩
  case round =>
    obtain ⟨k, hk, HK, rfl⟩ := hrel
    by_cases hlt : k < s.size
    · have HS := Lib.hid (ok_next s k hlt HK.out)
      by_cases h1 : 97 ≤ (s[k].toNat : Int)
      · by_cases h2 : (s[k].toNat : Int) ≤ 122
        · have HL := Lib.hid (okc_iff_letter (k := k) (isLet_mk h1 h2))
          have d1 : decide (97 ≤ (s[k].toNat : Int)) = true := by simpa using h1
          have d2 : decide ((s[k].toNat : Int) ≤ 122) = true := by simpa using h2
          go_wp2
          go_round
          case rel => exact ⟨k + 1, by omega, HS.out.trans (HL.out), by go_num⟩
          case measure => simp [intOf]; omega
        · have HL := Lib.hid (isLet_hi h2)
          have d2 : decide ((s[k].toNat : Int) ≤ 122) = false := by simpa using h2
          have d4 : decide ((s[k].toNat : Int) ≤ 57) = false := by simp; omega
          have d5 : ((s[k].toNat : Int) != 95) = true := by simp; omega
          have HO := Lib.hid (okc_none (isLet_hi h2) (isDig_hi (by omega)) (by simp; omega))
          cases hk0 : ((k : Int) == 0) with
          | true =>
            have HZ := Lib.hid (okc_iff_zero hk0 HL.out)
            go_wp2
            go_ret
            exact ⟨ret_bool (name_bad (HS.out.trans (HZ.out))).symm, rfl⟩
          | false =>
            have HZ := Lib.hid (okc_iff_more hk0 HO.out)
            go_wp2
            go_ret
            exact ⟨ret_bool (name_bad (HS.out.trans (HZ.out))).symm, rfl⟩
      · have HL := Lib.hid (isLet_lo h1)
        have d1 : decide (97 ≤ (s[k].toNat : Int)) = false := by simpa using h1
        cases hk0 : ((k : Int) == 0) with
        | true =>
          have HZ := Lib.hid (okc_iff_zero hk0 HL.out)
          go_wp2
          go_ret
          exact ⟨ret_bool (name_bad (HS.out.trans (HZ.out))).symm, rfl⟩
        | false =>
          by_cases h3 : 48 ≤ (s[k].toNat : Int)
          · by_cases h4 : (s[k].toNat : Int) ≤ 57
            · have HZ := Lib.hid (okc_iff_more hk0 (okc_digit (isDig_mk h3 h4)))
              have d3 : decide (48 ≤ (s[k].toNat : Int)) = true := by simpa using h3
              have d4 : decide ((s[k].toNat : Int) ≤ 57) = true := by simpa using h4
              go_wp2
              go_round
              case rel => exact ⟨k + 1, by omega, HS.out.trans (HZ.out), by go_num⟩
              case measure => simp [intOf]; omega
            · have d3 : decide (48 ≤ (s[k].toNat : Int)) = true := by simpa using h3
              have d4 : decide ((s[k].toNat : Int) ≤ 57) = false := by simpa using h4
              cases h5 : ((s[k].toNat : Int) == 95) with
              | true =>
                have HZ := Lib.hid (okc_iff_more hk0 (okc_under h5))
                have d5 := neq95_false h5
                go_wp2
                go_round
                case rel => exact ⟨k + 1, by omega, HS.out.trans (HZ.out), by go_num⟩
                case measure => simp [intOf]; omega
              | false =>
                have HZ := Lib.hid (okc_iff_more hk0 (okc_none HL.out (isDig_hi h4) h5))
                have d5 := neq95_true h5
                go_wp2
                go_ret
                exact ⟨ret_bool (name_bad (HS.out.trans (HZ.out))).symm, rfl⟩
          · have d3 : decide (48 ≤ (s[k].toNat : Int)) = false := by simpa using h3
            have d5 : ((s[k].toNat : Int) != 95) = true := by simp; omega
            have HZ := Lib.hid (okc_iff_more hk0 (okc_none HL.out (isDig_lo h3) (by simp; omega)))
            go_wp2
            go_ret
            exact ⟨ret_bool (name_bad (HS.out.trans (HZ.out))).symm, rfl⟩
    · have HN := Lib.hid (name_all (Nat.le_of_not_lt hlt) HK.out)
      by_cases h1 : 1 ≤ (s.size : Int)
      · have d1 : decide (1 ≤ (s.size : Int)) = true := by simpa using h1
        go_wp2
        go_ret
        exact ⟨ret_bool (by rw [HN.out, d1]; rfl), rfl⟩
      · have d1 : decide (1 ≤ (s.size : Int)) = false := by simpa using h1
        go_wp2
        go_ret
        exact ⟨ret_bool (by rw [HN.out, d1]; rfl), rfl⟩

end Go.Proofs.YtolnikpihedmbaaGreatDoor

namespace Go.Proofs.YtolnikpihedmbaaGreatDoor
open Go.RowKit

theorem refName_is (s : ByteArray) (b : Bool) (h : isName s.data.toList = b) (hs : s.size ≤ maxLen) (w : World) : Calls Tryz.prog 62 #[.string s] w fun e w' => e = .returned (.bool b) ∧ w = w' := by
  subst h; exact refName_any s w hs

theorem assert_eno (m : Int) (w : World) : (Instr.typeAssert (eno m) 28 76 true).run Tryz.prog w = .ok (.tuple #[.int .i64 m, .bool true]) w := by kernel_rfl
end Go.Proofs.YtolnikpihedmbaaGreatDoor

namespace Go.Proofs.YtolnikpihedmbaaGreatDoor
open Go.RowKit

/-- what Parse answers. -/
def outV : Option Int → Value
  | some n => .tuple #[vv 1 n noText, .bool true]
  | none => .tuple #[vv 0 0 noText, .bool false]
/-- no figure 0 too many. -/
def HeadOk (neg : Bool) (T : ByteArray) : Prop := ¬ (T.data.toList.head? = some 48 ∧ (1 < T.data.toList.length ∨ neg = true))

theorem size_len (T : ByteArray) : T.data.toList.length = T.size := by simp
theorem dec_more (T : ByteArray) (k m : Nat) (hk : k < T.size) (h : Lib.decFrom 0 (T.data.toList.take k) = some m) (h1 : 48 ≤ T[k].toNat) (h2 : T[k].toNat ≤ 57) :
    Lib.decFrom 0 (T.data.toList.take (k + 1)) = some (m * 10 + (T[k].toNat - 48)) := by
  rw [take_snoc T k hk, decFrom_append _ _ _ _ h, decFrom_one h1 h2]
theorem pow_more (m k d : Nat) (h : m < 10 ^ k) (hd : d ≤ 9) : m * 10 + d < 10 ^ (k + 1) := by
  rw [Nat.pow_succ]; omega
theorem decFrom_stop (l r : List UInt8) (c : UInt8) (hc : ¬ (48 ≤ c.toNat ∧ c.toNat ≤ 57)) : ∀ a b, Lib.decFrom a l = some b → Lib.decFrom a (l ++ c :: r) = none := fun a b h => by
  rw [decFrom_append _ _ _ _ h]
  have : Lib.digitVal c = none := by unfold Lib.digitVal; rw [if_neg hc]
  simp only [Lib.decFrom, this]
theorem dec_stop (T : ByteArray) (k m : Nat) (hk : k < T.size) (h : Lib.decFrom 0 (T.data.toList.take k) = some m) (hc : ¬ (48 ≤ T[k].toNat ∧ T[k].toNat ≤ 57)) : Lib.decFrom 0 T.data.toList = none := by
  have e : T.data.toList = T.data.toList.take k ++ T[k] :: T.data.toList.drop (k + 1) := by
    have h1 := List.take_append_drop (k + 1) T.data.toList
    rw [take_snoc T k hk] at h1
    simpa using h1.symm
  rw [e]
  exact decFrom_stop _ _ _ hc _ _ h
theorem pnum_none {neg : Bool} {t : List UInt8} (h : Lib.decFrom 0 t = none) : pnum neg t = none := by
  unfold pnum
  split
  · rfl
  · split
    · rfl
    · rw [h]
theorem pnum_stop (neg : Bool) (T : ByteArray) (k m : Nat) (hk : k < T.size) (h : Lib.decFrom 0 (T.data.toList.take k) = some m) (hc : ¬ (48 ≤ T[k].toNat ∧ T[k].toNat ≤ 57)) :
    (Value.tuple #[vv 0 0 noText, .bool false]) = outV (signed neg (pnum neg T.data.toList)) := by
  rw [pnum_none (dec_stop T k m hk h hc)]; rfl
theorem dec_all {T : ByteArray} {k m : Nat} (hk : T.size ≤ k) (h : Lib.decFrom 0 (T.data.toList.take k) = some m) : Lib.decFrom 0 T.data.toList = some m := by
  rwa [List.take_of_length_le (by simpa using hk)] at h
theorem pnum_over (neg : Bool) (T : ByteArray) (k m : Nat) (hk : T.size ≤ k) (h : Lib.decFrom 0 (T.data.toList.take k) = some m) (hm : ¬ m ≤ 2147483647) :
    (Value.tuple #[vv 0 0 noText, .bool false]) = outV (signed neg (pnum neg T.data.toList)) := by
  have : pnum neg T.data.toList = none := by
    unfold pnum
    split
    · rfl
    · split
      · rfl
      · rw [dec_all hk h]; simp only [if_neg hm]
  rw [this]; rfl
theorem pnum_good (neg : Bool) (T : ByteArray) (k m : Nat) (hk : T.size ≤ k) (h : Lib.decFrom 0 (T.data.toList.take k) = some m) (hm : m ≤ 2147483647) (h0 : ¬ T.size = 0) (h10 : ¬ 10 < T.size) (hz : HeadOk neg T) :
    (Value.tuple #[vv 1 (if neg then -(m : Int) else (m : Int)) noText, .bool true]) = outV (signed neg (pnum neg T.data.toList)) := by
  have : pnum neg T.data.toList = some m := by
    unfold pnum
    rw [if_neg (by rw [size_len]; omega), if_neg hz, dec_all hk h]
    simp only [if_pos hm]
  rw [this]; rfl
theorem pnum_len (neg : Bool) (T : ByteArray) (h : T.size = 0 ∨ 10 < T.size) : (Value.tuple #[vv 0 0 noText, .bool false]) = outV (signed neg (pnum neg T.data.toList)) := by
  have : pnum neg T.data.toList = none := by unfold pnum; rw [if_pos (by rw [size_len]; exact h)]
  rw [this]; rfl
theorem pnum_head (neg : Bool) (T : ByteArray) (h : ¬ HeadOk neg T) : (Value.tuple #[vv 0 0 noText, .bool false]) = outV (signed neg (pnum neg T.data.toList)) := by
  have : pnum neg T.data.toList = none := by
    unfold pnum
    split
    · rfl
    · rw [if_pos (Classical.not_not.1 h)]
  rw [this]; rfl

set_option maxHeartbeats 2000000 in
theorem ref_pos_long (s : ByteArray) (w : World) (hs : s.size ≤ maxLen) (hm : isName s.data.toList = false) (hT : s.size ≤ maxLen) (h0 : 0 < s.size) (h45 : ((s[0].toNat : Int) == 45) = false) (hl : 10 < (s.size : Int)) :
    Calls Tryz.prog 63 #[.string s] w fun e w' => e = .returned (outV (signed false (pnum false s.data.toList))) ∧ Below w.heap.size w w' := by
  have hT' := hT
  unfold maxLen at hT'
  have HM := Lib.hid hm
  clear hm
  have hzz : ((s.size : Int) == 0) = false := beq_eq_false_iff_ne.2 (by omega)
  have hz2 : ¬ s = ByteArray.empty := fun h => by subst h; simp at h0
  go_enter Tryz.func63, Tryz.ntmps63
  go_wp2_with fail
  refine (refName_is _ _ HM.out hs _).mono ?_
  rintro e w1 ⟨rfl, rfl⟩
  go_upto_if 20 with fail
  go_cut [4, 5] (fun s4 s5 wx => s4 = .string s ∧ s5 = .int .i64 1 ∧ wx = w.alloc (.cells #[.int .i64 0, .int .i64 0, .string noText] 55))
  case first =>
    go_wp2_with fail
    go_meet
    exact ⟨rfl, rfl, rfl⟩
  case rest =>
    obtain ⟨rfl, rfl, rfl⟩ := hcut
    have d1 : decide (10 < (s.size : Int)) = true := by simp; omega
    have HE := Lib.hid (pnum_len false s (by omega))
    go_wp2
    refine bodyPost_ret (v := .tuple #[vv 0 0 noText, .bool false]) (by simp [results, Tryz.results63, go_sem]) rfl ⟨congrArg Ending.returned HE.out, ?_⟩
    exact (Below.refl _ _).alloc (Nat.le_refl _) _

set_option maxHeartbeats 2000000 in
theorem ref_pos_zero (s : ByteArray) (w : World) (hs : s.size ≤ maxLen) (hm : isName s.data.toList = false) (hT : s.size ≤ maxLen) (h0 : 0 < s.size) (h45 : ((s[0].toNat : Int) == 45) = false) (hl : (s.size : Int) ≤ 10) (h48 : ((s[0].toNat : Int) == 48) = true) (h1 : 1 < (s.size : Int)) (hz : ¬ HeadOk false s) :
    Calls Tryz.prog 63 #[.string s] w fun e w' => e = .returned (outV (signed false (pnum false s.data.toList))) ∧ Below w.heap.size w w' := by
  have hT' := hT
  unfold maxLen at hT'
  have HM := Lib.hid hm
  clear hm
  have hzz : ((s.size : Int) == 0) = false := beq_eq_false_iff_ne.2 (by omega)
  have hz2 : ¬ s = ByteArray.empty := fun h => by subst h; simp at h0
  go_enter Tryz.func63, Tryz.ntmps63
  go_wp2_with fail
  refine (refName_is _ _ HM.out hs _).mono ?_
  rintro e w1 ⟨rfl, rfl⟩
  go_upto_if 20 with fail
  go_cut [4, 5] (fun s4 s5 wx => s4 = .string s ∧ s5 = .int .i64 1 ∧ wx = w.alloc (.cells #[.int .i64 0, .int .i64 0, .string noText] 55))
  case first =>
    go_wp2_with fail
    go_meet
    exact ⟨rfl, rfl, rfl⟩
  case rest =>
    obtain ⟨rfl, rfl, rfl⟩ := hcut
    have HZ := Lib.hid hz
    clear hz
    have d1 : decide (10 < (s.size : Int)) = false := by simp; omega
    have d2 : decide (1 < (s.size : Int)) = true := by simp; omega
    have HE := Lib.hid (pnum_head false s HZ.out)
    go_wp2
    refine bodyPost_ret (v := .tuple #[vv 0 0 noText, .bool false]) (by simp [results, Tryz.results63, go_sem]) rfl ⟨congrArg Ending.returned HE.out, ?_⟩
    exact (Below.refl _ _).alloc (Nat.le_refl _) _

set_option maxHeartbeats 2000000 in
theorem ref_pos_one (s : ByteArray) (w : World) (hs : s.size ≤ maxLen) (hm : isName s.data.toList = false) (hT : s.size ≤ maxLen) (h0 : 0 < s.size) (h45 : ((s[0].toNat : Int) == 45) = false) (hl : (s.size : Int) ≤ 10) (h48 : ((s[0].toNat : Int) == 48) = true) (h1 : (s.size : Int) ≤ 1) (hz : HeadOk false s) :
    Calls Tryz.prog 63 #[.string s] w fun e w' => e = .returned (outV (signed false (pnum false s.data.toList))) ∧ Below w.heap.size w w' := by
  have hT' := hT
  unfold maxLen at hT'
  have HM := Lib.hid hm
  clear hm
  have hzz : ((s.size : Int) == 0) = false := beq_eq_false_iff_ne.2 (by omega)
  have hz2 : ¬ s = ByteArray.empty := fun h => by subst h; simp at h0
  go_enter Tryz.func63, Tryz.ntmps63
  go_wp2_with fail
  refine (refName_is _ _ HM.out hs _).mono ?_
  rintro e w1 ⟨rfl, rfl⟩
  go_upto_if 20 with fail
  go_cut [4, 5] (fun s4 s5 wx => s4 = .string s ∧ s5 = .int .i64 1 ∧ wx = w.alloc (.cells #[.int .i64 0, .int .i64 0, .string noText] 55))
  case first =>
    go_wp2_with fail
    go_meet
    exact ⟨rfl, rfl, rfl⟩
  case rest =>
    obtain ⟨rfl, rfl, rfl⟩ := hcut
    have HZ := Lib.hid hz
    clear hz
    have d1 : decide (10 < (s.size : Int)) = false := by simp; omega
    have d2 : decide (1 < (s.size : Int)) = false := by simp; omega
    go_wp2
    go_loop [6, 7] (fun n i => ∃ k m : Nat, k ≤ s.size ∧ i = .int .i64 k ∧ n = .int .i64 m ∧ Hid (Lib.decFrom 0 (s.data.toList.take k) = some m) ∧ m < 10 ^ k) (fun _ i => s.size - (intOf i).toNat)
    case atStart => exact ⟨0, 0, Nat.zero_le _, rfl, rfl, rfl, by decide⟩
    case round =>
      obtain ⟨k, m, hk, rfl, rfl, HD, hb⟩ := hrel
      by_cases hlt : k < s.size
      · have hb9 : m < 1000000000 := Nat.lt_of_lt_of_le hb (Nat.le_trans (Nat.pow_le_pow_right (by decide) (by omega : k ≤ 9)) (by decide))
        by_cases h1 : 48 ≤ (s[k].toNat : Int)
        · have t1 : decide ((s[k].toNat : Int) < 48) = false := by simp; omega
          by_cases h2 : (s[k].toNat : Int) ≤ 57
          · have t2 : decide (57 < (s[k].toNat : Int)) = false := by simp; omega
            have HS := Lib.hid (dec_more s k m hlt HD.out (by omega) (by omega))
            have hb' := pow_more m k (s[k].toNat - 48) hb (by omega)
            go_wp2
            go_round
            case rel => exact ⟨k + 1, m * 10 + (s[k].toNat - 48), by omega, by go_num, congrArg (Value.int IntKind.i64) (by omega), HS.out, hb'⟩
            case measure => simp [intOf]; omega
          · have t2 : decide (57 < (s[k].toNat : Int)) = true := by simp; omega
            have HE := Lib.hid (pnum_stop false s k m hlt HD.out (by omega))
            go_wp2
            refine bodyPost_ret (v := .tuple #[vv 0 0 noText, .bool false]) (by simp [results, Tryz.results63, go_sem]) rfl ⟨congrArg Ending.returned HE.out, ?_⟩
            exact (Below.refl _ _).alloc (Nat.le_refl _) _
        · have t1 : decide ((s[k].toNat : Int) < 48) = true := by simp; omega
          have HE := Lib.hid (pnum_stop false s k m hlt HD.out (by omega))
          go_wp2
          refine bodyPost_ret (v := .tuple #[vv 0 0 noText, .bool false]) (by simp [results, Tryz.results63, go_sem]) rfl ⟨congrArg Ending.returned HE.out, ?_⟩
          exact (Below.refl _ _).alloc (Nat.le_refl _) _
      · have hb10 : m < 10000000000 := Nat.lt_of_lt_of_le hb (Nat.le_trans (Nat.pow_le_pow_right (by decide) (by omega : k ≤ 10)) (by decide))
        have hkk : s.size ≤ k := by omega
        by_cases h3 : (m : Int) ≤ 2147483647
        · have t3 : decide (2147483647 < (m : Int)) = false := by simp; omega
          have HE := Lib.hid (pnum_good false s k m hkk HD.out (by omega) (by omega) (by omega) HZ.out)
          go_wp2
          refine bodyPost_ret (v := .tuple #[vv 1 ((m : Int)) noText, .bool true]) (by simp [results, Tryz.results63, go_sem]) rfl ⟨congrArg Ending.returned HE.out, ?_⟩
          exact (Below.refl _ _).alloc (Nat.le_refl _) _
        · have t3 : decide (2147483647 < (m : Int)) = true := by simp; omega
          have HE := Lib.hid (pnum_over false s k m hkk HD.out (by omega))
          go_wp2
          refine bodyPost_ret (v := .tuple #[vv 0 0 noText, .bool false]) (by simp [results, Tryz.results63, go_sem]) rfl ⟨congrArg Ending.returned HE.out, ?_⟩
          exact (Below.refl _ _).alloc (Nat.le_refl _) _

set_option maxHeartbeats 2000000 in
theorem ref_pos_loop (s : ByteArray) (w : World) (hs : s.size ≤ maxLen) (hm : isName s.data.toList = false) (hT : s.size ≤ maxLen) (h0 : 0 < s.size) (h45 : ((s[0].toNat : Int) == 45) = false) (hl : (s.size : Int) ≤ 10) (h48 : ((s[0].toNat : Int) == 48) = false) (hz : HeadOk false s) :
    Calls Tryz.prog 63 #[.string s] w fun e w' => e = .returned (outV (signed false (pnum false s.data.toList))) ∧ Below w.heap.size w w' := by
  have hT' := hT
  unfold maxLen at hT'
  have HM := Lib.hid hm
  clear hm
  have hzz : ((s.size : Int) == 0) = false := beq_eq_false_iff_ne.2 (by omega)
  have hz2 : ¬ s = ByteArray.empty := fun h => by subst h; simp at h0
  go_enter Tryz.func63, Tryz.ntmps63
  go_wp2_with fail
  refine (refName_is _ _ HM.out hs _).mono ?_
  rintro e w1 ⟨rfl, rfl⟩
  go_upto_if 20 with fail
  go_cut [4, 5] (fun s4 s5 wx => s4 = .string s ∧ s5 = .int .i64 1 ∧ wx = w.alloc (.cells #[.int .i64 0, .int .i64 0, .string noText] 55))
  case first =>
    go_wp2_with fail
    go_meet
    exact ⟨rfl, rfl, rfl⟩
  case rest =>
    obtain ⟨rfl, rfl, rfl⟩ := hcut
    have HZ := Lib.hid hz
    clear hz
    have d1 : decide (10 < (s.size : Int)) = false := by simp; omega
    go_wp2
    go_loop [6, 7] (fun n i => ∃ k m : Nat, k ≤ s.size ∧ i = .int .i64 k ∧ n = .int .i64 m ∧ Hid (Lib.decFrom 0 (s.data.toList.take k) = some m) ∧ m < 10 ^ k) (fun _ i => s.size - (intOf i).toNat)
    case atStart => exact ⟨0, 0, Nat.zero_le _, rfl, rfl, rfl, by decide⟩
    case round =>
      obtain ⟨k, m, hk, rfl, rfl, HD, hb⟩ := hrel
      by_cases hlt : k < s.size
      · have hb9 : m < 1000000000 := Nat.lt_of_lt_of_le hb (Nat.le_trans (Nat.pow_le_pow_right (by decide) (by omega : k ≤ 9)) (by decide))
        by_cases h1 : 48 ≤ (s[k].toNat : Int)
        · have t1 : decide ((s[k].toNat : Int) < 48) = false := by simp; omega
          by_cases h2 : (s[k].toNat : Int) ≤ 57
          · have t2 : decide (57 < (s[k].toNat : Int)) = false := by simp; omega
            have HS := Lib.hid (dec_more s k m hlt HD.out (by omega) (by omega))
            have hb' := pow_more m k (s[k].toNat - 48) hb (by omega)
            go_wp2
            go_round
            case rel => exact ⟨k + 1, m * 10 + (s[k].toNat - 48), by omega, by go_num, congrArg (Value.int IntKind.i64) (by omega), HS.out, hb'⟩
            case measure => simp [intOf]; omega
          · have t2 : decide (57 < (s[k].toNat : Int)) = true := by simp; omega
            have HE := Lib.hid (pnum_stop false s k m hlt HD.out (by omega))
            go_wp2
            refine bodyPost_ret (v := .tuple #[vv 0 0 noText, .bool false]) (by simp [results, Tryz.results63, go_sem]) rfl ⟨congrArg Ending.returned HE.out, ?_⟩
            exact (Below.refl _ _).alloc (Nat.le_refl _) _
        · have t1 : decide ((s[k].toNat : Int) < 48) = true := by simp; omega
          have HE := Lib.hid (pnum_stop false s k m hlt HD.out (by omega))
          go_wp2
          refine bodyPost_ret (v := .tuple #[vv 0 0 noText, .bool false]) (by simp [results, Tryz.results63, go_sem]) rfl ⟨congrArg Ending.returned HE.out, ?_⟩
          exact (Below.refl _ _).alloc (Nat.le_refl _) _
      · have hb10 : m < 10000000000 := Nat.lt_of_lt_of_le hb (Nat.le_trans (Nat.pow_le_pow_right (by decide) (by omega : k ≤ 10)) (by decide))
        have hkk : s.size ≤ k := by omega
        by_cases h3 : (m : Int) ≤ 2147483647
        · have t3 : decide (2147483647 < (m : Int)) = false := by simp; omega
          have HE := Lib.hid (pnum_good false s k m hkk HD.out (by omega) (by omega) (by omega) HZ.out)
          go_wp2
          refine bodyPost_ret (v := .tuple #[vv 1 ((m : Int)) noText, .bool true]) (by simp [results, Tryz.results63, go_sem]) rfl ⟨congrArg Ending.returned HE.out, ?_⟩
          exact (Below.refl _ _).alloc (Nat.le_refl _) _
        · have t3 : decide (2147483647 < (m : Int)) = true := by simp; omega
          have HE := Lib.hid (pnum_over false s k m hkk HD.out (by omega))
          go_wp2
          refine bodyPost_ret (v := .tuple #[vv 0 0 noText, .bool false]) (by simp [results, Tryz.results63, go_sem]) rfl ⟨congrArg Ending.returned HE.out, ?_⟩
          exact (Below.refl _ _).alloc (Nat.le_refl _) _

set_option maxHeartbeats 2000000 in
theorem ref_empty  (w : World) (hs : noText.size ≤ maxLen) (hm : isName noText.data.toList = false) (hT : noText.size ≤ maxLen)  :
    Calls Tryz.prog 63 #[.string noText] w fun e w' => e = .returned (outV (signed false (pnum false noText.data.toList))) ∧ Below w.heap.size w w' := by
  have hT' := hT
  unfold maxLen at hT'
  have HM := Lib.hid hm
  clear hm
  go_enter Tryz.func63, Tryz.ntmps63
  go_wp2_with fail
  refine (refName_is _ _ HM.out hs _).mono ?_
  rintro e w1 ⟨rfl, rfl⟩
  go_upto_if 20 with fail
  go_cut [4, 5] (fun s4 s5 wx => s4 = .string noText ∧ s5 = .int .i64 1 ∧ wx = w.alloc (.cells #[.int .i64 0, .int .i64 0, .string noText] 55))
  case first =>
    go_wp2_with fail
    go_meet
    exact ⟨rfl, rfl, rfl⟩
  case rest =>
    obtain ⟨rfl, rfl, rfl⟩ := hcut
    have HE := Lib.hid (pnum_len false noText (Or.inl rfl))
    go_wp2
    refine bodyPost_ret (v := .tuple #[vv 0 0 noText, .bool false]) (by simp [results, Tryz.results63, go_sem]) rfl ⟨congrArg Ending.returned HE.out, ?_⟩
    exact (Below.refl _ _).alloc (Nat.le_refl _) _

set_option maxHeartbeats 2000000 in
theorem ref_neg_none (s T : ByteArray) (w : World) (hs : s.size ≤ maxLen) (hm : isName s.data.toList = false) (hT : T.size ≤ maxLen) (h0 : 0 < s.size) (h45 : ((s[0].toNat : Int) == 45) = true) (hte : s.extract 1 s.size = T) (hl : T.size = 0) :
    Calls Tryz.prog 63 #[.string s] w fun e w' => e = .returned (outV (signed true (pnum true T.data.toList))) ∧ Below w.heap.size w w' := by
  have hT' := hT
  unfold maxLen at hT'
  have HM := Lib.hid hm
  clear hm
  have hzz : ((s.size : Int) == 0) = false := beq_eq_false_iff_ne.2 (by omega)
  have hz2 : ¬ s = ByteArray.empty := fun h => by subst h; simp at h0
  have HTE := Lib.hid hte
  clear hte
  go_enter Tryz.func63, Tryz.ntmps63
  go_wp2_with fail
  refine (refName_is _ _ HM.out hs _).mono ?_
  rintro e w1 ⟨rfl, rfl⟩
  go_upto_if 20 with fail
  go_cut [4, 5] (fun s4 s5 wx => s4 = .string T ∧ s5 = .int .i64 (-1) ∧ wx = w.alloc (.cells #[.int .i64 0, .int .i64 0, .string noText] 55))
  case first =>
    go_wp2_with fail
    go_meet
    exact ⟨by rw [HTE.out], rfl, rfl⟩
  case rest =>
    obtain ⟨rfl, rfl, rfl⟩ := hcut
    have hzzT : ((T.size : Int) == 0) = true := beq_iff_eq.2 (by omega)
    have hle := Lib.hid hl
    clear hl
    have HE := Lib.hid (pnum_len true T (Or.inl hle.out))
    go_wp2
    refine bodyPost_ret (v := .tuple #[vv 0 0 noText, .bool false]) (by simp [results, Tryz.results63, go_sem]) rfl ⟨congrArg Ending.returned HE.out, ?_⟩
    exact (Below.refl _ _).alloc (Nat.le_refl _) _

set_option maxHeartbeats 2000000 in
theorem ref_neg_long (s T : ByteArray) (w : World) (hs : s.size ≤ maxLen) (hm : isName s.data.toList = false) (hT : T.size ≤ maxLen) (h0 : 0 < s.size) (h45 : ((s[0].toNat : Int) == 45) = true) (hte : s.extract 1 s.size = T) (h0T : 0 < T.size) (hl : 10 < (T.size : Int)) :
    Calls Tryz.prog 63 #[.string s] w fun e w' => e = .returned (outV (signed true (pnum true T.data.toList))) ∧ Below w.heap.size w w' := by
  have hT' := hT
  unfold maxLen at hT'
  have HM := Lib.hid hm
  clear hm
  have hzz : ((s.size : Int) == 0) = false := beq_eq_false_iff_ne.2 (by omega)
  have hz2 : ¬ s = ByteArray.empty := fun h => by subst h; simp at h0
  have HTE := Lib.hid hte
  clear hte
  go_enter Tryz.func63, Tryz.ntmps63
  go_wp2_with fail
  refine (refName_is _ _ HM.out hs _).mono ?_
  rintro e w1 ⟨rfl, rfl⟩
  go_upto_if 20 with fail
  go_cut [4, 5] (fun s4 s5 wx => s4 = .string T ∧ s5 = .int .i64 (-1) ∧ wx = w.alloc (.cells #[.int .i64 0, .int .i64 0, .string noText] 55))
  case first =>
    go_wp2_with fail
    go_meet
    exact ⟨by rw [HTE.out], rfl, rfl⟩
  case rest =>
    obtain ⟨rfl, rfl, rfl⟩ := hcut
    have hzzT : ((T.size : Int) == 0) = false := beq_eq_false_iff_ne.2 (by omega)
    have hzT2 : ¬ T = ByteArray.empty := fun h => by subst h; simp at h0T
    have d1 : decide (10 < (T.size : Int)) = true := by simp; omega
    have HE := Lib.hid (pnum_len true T (by omega))
    go_wp2
    refine bodyPost_ret (v := .tuple #[vv 0 0 noText, .bool false]) (by simp [results, Tryz.results63, go_sem]) rfl ⟨congrArg Ending.returned HE.out, ?_⟩
    exact (Below.refl _ _).alloc (Nat.le_refl _) _

set_option maxHeartbeats 2000000 in
theorem ref_neg_zero (s T : ByteArray) (w : World) (hs : s.size ≤ maxLen) (hm : isName s.data.toList = false) (hT : T.size ≤ maxLen) (h0 : 0 < s.size) (h45 : ((s[0].toNat : Int) == 45) = true) (hte : s.extract 1 s.size = T) (h0T : 0 < T.size) (hl : (T.size : Int) ≤ 10) (h48 : ((T[0].toNat : Int) == 48) = true) (hz : ¬ HeadOk true T) :
    Calls Tryz.prog 63 #[.string s] w fun e w' => e = .returned (outV (signed true (pnum true T.data.toList))) ∧ Below w.heap.size w w' := by
  have hT' := hT
  unfold maxLen at hT'
  have HM := Lib.hid hm
  clear hm
  have hzz : ((s.size : Int) == 0) = false := beq_eq_false_iff_ne.2 (by omega)
  have hz2 : ¬ s = ByteArray.empty := fun h => by subst h; simp at h0
  have HTE := Lib.hid hte
  clear hte
  go_enter Tryz.func63, Tryz.ntmps63
  go_wp2_with fail
  refine (refName_is _ _ HM.out hs _).mono ?_
  rintro e w1 ⟨rfl, rfl⟩
  go_upto_if 20 with fail
  go_cut [4, 5] (fun s4 s5 wx => s4 = .string T ∧ s5 = .int .i64 (-1) ∧ wx = w.alloc (.cells #[.int .i64 0, .int .i64 0, .string noText] 55))
  case first =>
    go_wp2_with fail
    go_meet
    exact ⟨by rw [HTE.out], rfl, rfl⟩
  case rest =>
    obtain ⟨rfl, rfl, rfl⟩ := hcut
    have HZ := Lib.hid hz
    clear hz
    have hzzT : ((T.size : Int) == 0) = false := beq_eq_false_iff_ne.2 (by omega)
    have hzT2 : ¬ T = ByteArray.empty := fun h => by subst h; simp at h0T
    have d1 : decide (10 < (T.size : Int)) = false := by simp; omega
    by_cases h1 : 1 < (T.size : Int)
    · have d2 : decide (1 < (T.size : Int)) = true := by simp; omega
      have HE := Lib.hid (pnum_head true T HZ.out)
      go_wp2
      refine bodyPost_ret (v := .tuple #[vv 0 0 noText, .bool false]) (by simp [results, Tryz.results63, go_sem]) rfl ⟨congrArg Ending.returned HE.out, ?_⟩
      exact (Below.refl _ _).alloc (Nat.le_refl _) _
    · have d2 : decide (1 < (T.size : Int)) = false := by simp; omega
      have HE := Lib.hid (pnum_head true T HZ.out)
      go_wp2
      refine bodyPost_ret (v := .tuple #[vv 0 0 noText, .bool false]) (by simp [results, Tryz.results63, go_sem]) rfl ⟨congrArg Ending.returned HE.out, ?_⟩
      exact (Below.refl _ _).alloc (Nat.le_refl _) _

set_option maxHeartbeats 2000000 in
theorem ref_neg_loop (s T : ByteArray) (w : World) (hs : s.size ≤ maxLen) (hm : isName s.data.toList = false) (hT : T.size ≤ maxLen) (h0 : 0 < s.size) (h45 : ((s[0].toNat : Int) == 45) = true) (hte : s.extract 1 s.size = T) (h0T : 0 < T.size) (hl : (T.size : Int) ≤ 10) (h48 : ((T[0].toNat : Int) == 48) = false) (hz : HeadOk true T) :
    Calls Tryz.prog 63 #[.string s] w fun e w' => e = .returned (outV (signed true (pnum true T.data.toList))) ∧ Below w.heap.size w w' := by
  have hT' := hT
  unfold maxLen at hT'
  have HM := Lib.hid hm
  clear hm
  have hzz : ((s.size : Int) == 0) = false := beq_eq_false_iff_ne.2 (by omega)
  have hz2 : ¬ s = ByteArray.empty := fun h => by subst h; simp at h0
  have HTE := Lib.hid hte
  clear hte
  go_enter Tryz.func63, Tryz.ntmps63
  go_wp2_with fail
  refine (refName_is _ _ HM.out hs _).mono ?_
  rintro e w1 ⟨rfl, rfl⟩
  go_upto_if 20 with fail
  go_cut [4, 5] (fun s4 s5 wx => s4 = .string T ∧ s5 = .int .i64 (-1) ∧ wx = w.alloc (.cells #[.int .i64 0, .int .i64 0, .string noText] 55))
  case first =>
    go_wp2_with fail
    go_meet
    exact ⟨by rw [HTE.out], rfl, rfl⟩
  case rest =>
    obtain ⟨rfl, rfl, rfl⟩ := hcut
    have HZ := Lib.hid hz
    clear hz
    have hzzT : ((T.size : Int) == 0) = false := beq_eq_false_iff_ne.2 (by omega)
    have hzT2 : ¬ T = ByteArray.empty := fun h => by subst h; simp at h0T
    have d1 : decide (10 < (T.size : Int)) = false := by simp; omega
    go_wp2
    go_loop [6, 7] (fun n i => ∃ k m : Nat, k ≤ T.size ∧ i = .int .i64 k ∧ n = .int .i64 m ∧ Hid (Lib.decFrom 0 (T.data.toList.take k) = some m) ∧ m < 10 ^ k) (fun _ i => T.size - (intOf i).toNat)
    case atStart => exact ⟨0, 0, Nat.zero_le _, rfl, rfl, rfl, by decide⟩
    case round =>
      obtain ⟨k, m, hk, rfl, rfl, HD, hb⟩ := hrel
      by_cases hlt : k < T.size
      · have hb9 : m < 1000000000 := Nat.lt_of_lt_of_le hb (Nat.le_trans (Nat.pow_le_pow_right (by decide) (by omega : k ≤ 9)) (by decide))
        by_cases h1 : 48 ≤ (T[k].toNat : Int)
        · have t1 : decide ((T[k].toNat : Int) < 48) = false := by simp; omega
          by_cases h2 : (T[k].toNat : Int) ≤ 57
          · have t2 : decide (57 < (T[k].toNat : Int)) = false := by simp; omega
            have HS := Lib.hid (dec_more T k m hlt HD.out (by omega) (by omega))
            have hb' := pow_more m k (T[k].toNat - 48) hb (by omega)
            go_wp2
            go_round
            case rel => exact ⟨k + 1, m * 10 + (T[k].toNat - 48), by omega, by go_num, congrArg (Value.int IntKind.i64) (by omega), HS.out, hb'⟩
            case measure => simp [intOf]; omega
          · have t2 : decide (57 < (T[k].toNat : Int)) = true := by simp; omega
            have HE := Lib.hid (pnum_stop true T k m hlt HD.out (by omega))
            go_wp2
            refine bodyPost_ret (v := .tuple #[vv 0 0 noText, .bool false]) (by simp [results, Tryz.results63, go_sem]) rfl ⟨congrArg Ending.returned HE.out, ?_⟩
            exact (Below.refl _ _).alloc (Nat.le_refl _) _
        · have t1 : decide ((T[k].toNat : Int) < 48) = true := by simp; omega
          have HE := Lib.hid (pnum_stop true T k m hlt HD.out (by omega))
          go_wp2
          refine bodyPost_ret (v := .tuple #[vv 0 0 noText, .bool false]) (by simp [results, Tryz.results63, go_sem]) rfl ⟨congrArg Ending.returned HE.out, ?_⟩
          exact (Below.refl _ _).alloc (Nat.le_refl _) _
      · have hb10 : m < 10000000000 := Nat.lt_of_lt_of_le hb (Nat.le_trans (Nat.pow_le_pow_right (by decide) (by omega : k ≤ 10)) (by decide))
        have hkk : T.size ≤ k := by omega
        by_cases h3 : (m : Int) ≤ 2147483647
        · have t3 : decide (2147483647 < (m : Int)) = false := by simp; omega
          have HE := Lib.hid (pnum_good true T k m hkk HD.out (by omega) (by omega) (by omega) HZ.out)
          go_wp2
          refine bodyPost_ret (v := .tuple #[vv 1 (-(m : Int)) noText, .bool true]) (by simp [results, Tryz.results63, go_sem]) rfl ⟨congrArg Ending.returned HE.out, ?_⟩
          exact (Below.refl _ _).alloc (Nat.le_refl _) _
        · have t3 : decide (2147483647 < (m : Int)) = true := by simp; omega
          have HE := Lib.hid (pnum_over true T k m hkk HD.out (by omega))
          go_wp2
          refine bodyPost_ret (v := .tuple #[vv 0 0 noText, .bool false]) (by simp [results, Tryz.results63, go_sem]) rfl ⟨congrArg Ending.returned HE.out, ?_⟩
          exact (Below.refl _ _).alloc (Nat.le_refl _) _

end Go.Proofs.YtolnikpihedmbaaGreatDoor
