/- Which texts are names: value.Name and corollaryref01.Name give the same, for every text no longer than Go's longest. -/
import Derived.Test.YtlfakhjcpdkaiaaGreatDoorValSmall
import Derived.Lib.Hide
import Derived.Handy
import Derived.Lib.Strings
namespace Go.Proofs.YtlfakhjcpdkaiaaGreatDoor
open Go.RowKit

/-- a byte that a name may go on with. -/
def okc (c : UInt8) : Bool := isLet c || isDig c || ((c.toNat : Int) == 95)
def okFrom : List UInt8 → Bool
  | [] => true
  | c :: r => isLet c && r.all okc
/-- 'is a name', of a text's bytes. -/
def isName (l : List UInt8) : Bool := !l.isEmpty && decide (l.length ≤ 32) && okFrom l

theorem take_snoc (s : ByteArray) (k : Nat) (h : k < s.size) : s.data.toList.take (k + 1) = s.data.toList.take k ++ [s[k]] := by
  rw [List.take_succ_eq_append_getElem (by simpa using h)]; rfl
theorem okFrom_snoc (l : List UInt8) (c : UInt8) : okFrom (l ++ [c]) = (okFrom l && if l.isEmpty then isLet c else okc c) := by
  cases l with
  | nil => simp [okFrom]
  | cons a r => simp [okFrom, Bool.and_assoc]
theorem okFrom_append {l m : List UInt8} (h : okFrom l = false) : okFrom (l ++ m) = false := by
  cases l with
  | nil => simp [okFrom] at h
  | cons a r =>
    simp only [okFrom, List.cons_append, List.all_append] at h ⊢
    cases h1 : isLet a with
    | false => simp
    | true => rw [h1] at h; simp only [Bool.true_and] at h ⊢; rw [h]; simp
theorem okFrom_take {l : List UInt8} {k : Nat} (h : okFrom (l.take k) = false) : okFrom l = false := by
  have := okFrom_append (m := l.drop k) h
  rwa [List.take_append_drop] at this
theorem take_empty (s : ByteArray) (k : Nat) (h : k ≤ s.size) : (s.data.toList.take k).isEmpty = decide (k = 0) := by
  cases hk : decide (k = 0) with
  | true => simp at hk; subst hk; simp
  | false =>
    simp at hk
    have : (s.data.toList.take k).length = k := by rw [List.length_take]; simp only [Array.length_toList, ByteArray.size_data]; omega
    cases hl : s.data.toList.take k with
    | nil => rw [hl] at this; simp at this; omega
    | cons _ _ => rfl
/-- one byte more, first or later. -/
theorem ok_first (s : ByteArray) (h : 0 < s.size) : okFrom (s.data.toList.take 1) = isLet s[0] := by
  have e := take_snoc s 0 h
  rw [Nat.zero_add] at e
  rw [e, okFrom_snoc]; simp [okFrom]
theorem ok_later (s : ByteArray) (k : Nat) (h : k < s.size) (h0 : 1 ≤ k) (hp : okFrom (s.data.toList.take k) = true) : okFrom (s.data.toList.take (k + 1)) = okc s[k] := by
  rw [take_snoc s k h, okFrom_snoc, hp, take_empty s k (by omega)]
  have : decide (k = 0) = false := by simp; omega
  rw [this]; simp
theorem name_bad {s : ByteArray} {k : Nat} (h : okFrom (s.data.toList.take k) = false) : isName s.data.toList = false := by
  simp [isName, okFrom_take h]
theorem name_all {s : ByteArray} {k : Nat} (hk : s.size ≤ k) (h : okFrom (s.data.toList.take k) = true) : isName s.data.toList = (decide (1 ≤ (s.size : Int)) && decide ((s.size : Int) ≤ 32)) := by
  rw [List.take_of_length_le (by simpa using hk)] at h
  have h1 : (!s.data.toList.isEmpty) = decide (1 ≤ (s.size : Int)) := by
    have hz : s.size = s.data.toList.length := by simp
    cases hl : s.data.toList with
    | nil => rw [hl] at hz; simp at hz; simp [hz]
    | cons a r => rw [hl] at hz; simp at hz; simp [hz]; omega
  have h2 : decide (s.data.toList.length ≤ 32) = decide ((s.size : Int) ≤ 32) := by
    have hz : s.data.toList.length = s.size := by simp
    rw [hz]; exact decide_eq_decide.2 (by omega)
  simp only [isName, h, h1, h2, Bool.and_true]

theorem letter_is (c : UInt8) (b : Bool) (h : isLet c = b) (w : World) : Calls Tryz.prog 92 #[.int .u8 c.toNat] w fun e w' => e = .returned (.bool b) ∧ w = w' := by
  subst h; exact letter_any c w
theorem digit_is (c : UInt8) (b : Bool) (h : isDig c = b) (w : World) : Calls Tryz.prog 93 #[.int .u8 c.toNat] w fun e w' => e = .returned (.bool b) ∧ w = w' := by
  subst h; exact digit_any c w

theorem ret_bool {a b : Bool} (h : a = b) : Ending.returned (.bool a) = Ending.returned (.bool b) := by rw [h]

theorem neq95_true {c : UInt8} (h : ((c.toNat : Int) == 95) = false) : ((c.toNat : Int) != 95) = true := by simp [bne, h]
theorem neq95_false {c : UInt8} (h : ((c.toNat : Int) == 95) = true) : ((c.toNat : Int) != 95) = false := by simp [bne, h]
theorem okc_letter {c : UInt8} (h : isLet c = true) : okc c = true := by simp [okc, h]
theorem okc_digit {c : UInt8} (h : isDig c = true) : okc c = true := by simp [okc, h]
theorem okc_under {c : UInt8} (h : ((c.toNat : Int) == 95) = true) : okc c = true := by simp only [okc, h, Bool.or_true]
theorem okc_none {c : UInt8} (h : isLet c = false) (h2 : isDig c = false) (h3 : ((c.toNat : Int) == 95) = false) : okc c = false := by simp only [okc, h, h2, h3]; rfl

theorem name_long {s : ByteArray} (h : ¬ (s.size : Int) ≤ 32) : isName s.data.toList = false := by
  have : decide (s.data.toList.length ≤ 32) = false := by simp; omega
  simp only [isName, this]; simp
theorem name_none {s : ByteArray} (h : ¬ 0 < s.size) : isName s.data.toList = false := by
  have hz : s.size = s.data.toList.length := by simp
  have : s.data.toList = [] := List.eq_nil_of_length_eq_zero (by omega)
  rw [this]; rfl

set_option maxHeartbeats 1000000 in
theorem Name_any (s : ByteArray) (w : World) (hs : s.size ≤ maxLen) :
    Calls Tryz.prog 83 #[.string s] w fun e w' => e = .returned (.bool (isName s.data.toList)) ∧ w = w' := by
  unfold maxLen at hs
  have hz : s.toList.length = s.size := by rw [Lib.toList_data]; simp
  by_cases he : 0 < s.size
  · have hem : s.toList.isEmpty = false := by
      cases hl2 : s.toList with
      | nil => rw [hl2] at hz; simp at hz; omega
      | cons _ _ => rfl
    clear hz
    by_cases hl : (s.size : Int) ≤ 32
    · cases hf : isLet s[0] with
      | true =>
        have k1 := ok_first s he
        rw [hf] at k1
        have K1 := Lib.hid k1
        have hF := Lib.hid hf
        clear k1 hf
        go_enter Tryz.func83, Tryz.ntmps83
        go_wp2_with (go_at_call 92; refine (letter_is _ _ hF.out _).mono ?_; rintro e w' ⟨rfl, rfl⟩)
        go_loop [3] (fun i => ∃ k : Nat, 1 ≤ k ∧ k ≤ s.size ∧ Hid (okFrom (s.data.toList.take k) = true) ∧ i = .int .i64 k) (fun i => s.size - (intOf i).toNat)
        case atStart => exact ⟨1, Nat.le_refl _, he, K1, rfl⟩
        case round =>
          obtain ⟨k, hk1, hk, HK, rfl⟩ := hrel
          by_cases hlt : k < s.size
          · have HS := Lib.hid (ok_later s k hlt hk1 HK.out)
            cases h1 : isLet s[k] with
            | true =>
              have H1 := Lib.hid h1
              clear h1
              go_wp2_with (first | (go_at_call 92; refine (letter_is _ _ H1.out _).mono ?_; rintro e w' ⟨rfl, rfl⟩))
              go_round
              case rel => exact ⟨k + 1, by omega, by omega, HS.out.trans (okc_letter H1.out), by go_num⟩
              case measure => simp [intOf]; omega
            | false =>
              have H1 := Lib.hid h1
              clear h1
              cases h2 : isDig s[k] with
              | true =>
                have H2 := Lib.hid h2
                clear h2
                go_wp2_with (first | (go_at_call 92; refine (letter_is _ _ H1.out _).mono ?_; rintro e w' ⟨rfl, rfl⟩) | (go_at_call 93; refine (digit_is _ _ H2.out _).mono ?_; rintro e w' ⟨rfl, rfl⟩))
                go_round
                case rel => exact ⟨k + 1, by omega, by omega, HS.out.trans (okc_digit H2.out), by go_num⟩
                case measure => simp [intOf]; omega
              | false =>
                have H2 := Lib.hid h2
                clear h2
                cases h3 : ((s[k].toNat : Int) == 95) with
                | true =>
                  have H3 := Lib.hid h3
                  have h3' := neq95_false h3
                  go_wp2_with (first | (go_at_call 92; refine (letter_is _ _ H1.out _).mono ?_; rintro e w' ⟨rfl, rfl⟩) | (go_at_call 93; refine (digit_is _ _ H2.out _).mono ?_; rintro e w' ⟨rfl, rfl⟩))
                  go_round
                  case rel => exact ⟨k + 1, by omega, by omega, HS.out.trans (okc_under H3.out), by go_num⟩
                  case measure => simp [intOf]; omega
                | false =>
                  have H3 := Lib.hid h3
                  have h3' := neq95_true h3
                  go_wp2_with (first | (go_at_call 92; refine (letter_is _ _ H1.out _).mono ?_; rintro e w' ⟨rfl, rfl⟩) | (go_at_call 93; refine (digit_is _ _ H2.out _).mono ?_; rintro e w' ⟨rfl, rfl⟩))
                  go_ret
                  exact ⟨ret_bool (name_bad (HS.out.trans (okc_none H1.out H2.out H3.out))).symm, rfl⟩
          · go_wp2
            go_ret
            exact ⟨ret_bool (by rw [name_all (by omega) HK.out]; simp; omega), rfl⟩
      | false =>
        have k1 := ok_first s he
        rw [hf] at k1
        have K1 := Lib.hid (name_bad k1)
        have hF := Lib.hid hf
        clear k1 hf
        go_enter Tryz.func83, Tryz.ntmps83
        go_wp2_with (go_at_call 92; refine (letter_is _ _ hF.out _).mono ?_; rintro e w' ⟨rfl, rfl⟩)
        go_ret
        exact ⟨ret_bool K1.out.symm, rfl⟩
    · have K1 := Lib.hid (name_long hl)
      go_enter Tryz.func83, Tryz.ntmps83
      go_wp2
      go_ret
      exact ⟨ret_bool K1.out.symm, rfl⟩
  · have K1 := Lib.hid (name_none he)
    have hem : s.toList.isEmpty = true := by
      cases hl2 : s.toList with
      | nil => rfl
      | cons _ _ => rw [hl2] at hz; simp at hz; omega
    clear hz
    go_enter Tryz.func83, Tryz.ntmps83
    go_wp2
    go_ret
    exact ⟨ret_bool K1.out.symm, rfl⟩

theorem isLet_eq {c : UInt8} {b : Bool} (h : isLet c = b) : (97 ≤ (c.toNat : Int) ∧ (c.toNat : Int) ≤ 122) ↔ b = true := by
  subst h; simp [isLet]
theorem isDig_eq {c : UInt8} {b : Bool} (h : isDig c = b) : (48 ≤ (c.toNat : Int) ∧ (c.toNat : Int) ≤ 57) ↔ b = true := by
  subst h; simp [isDig]
theorem ok_at0 (s : ByteArray) (h : 0 < s.size) : okFrom (s.data.toList.take (0 + 1)) = isLet s[0] := by
  rw [Nat.zero_add]; exact ok_first s h

theorem ok_next (s : ByteArray) (k : Nat) (h : k < s.size) (hp : okFrom (s.data.toList.take k) = true) : okFrom (s.data.toList.take (k + 1)) = if ((k : Int) == 0) = true then isLet s[k] else okc s[k] := by
  rw [take_snoc s k h, okFrom_snoc, hp, take_empty s k (by omega)]
  by_cases h0 : k = 0
  · subst h0; simp
  · have h1 : ((k : Int) == 0) = false := by simp; omega
    have : decide (k = 0) = false := by simp; omega
    rw [this, h1]; simp
theorem isLet_mk {c : UInt8} (h1 : 97 ≤ (c.toNat : Int)) (h2 : (c.toNat : Int) ≤ 122) : isLet c = true := by simp only [isLet, h1, h2]; rfl
theorem isLet_lo {c : UInt8} (h1 : ¬ 97 ≤ (c.toNat : Int)) : isLet c = false := by simp only [isLet, h1]; rfl
theorem isLet_hi {c : UInt8} (h1 : ¬ (c.toNat : Int) ≤ 122) : isLet c = false := by simp only [isLet, h1, decide_false, Bool.and_false]
theorem isDig_mk {c : UInt8} (h1 : 48 ≤ (c.toNat : Int)) (h2 : (c.toNat : Int) ≤ 57) : isDig c = true := by simp only [isDig, h1, h2]; rfl
theorem isDig_lo {c : UInt8} (h1 : ¬ 48 ≤ (c.toNat : Int)) : isDig c = false := by simp only [isDig, h1]; rfl
theorem isDig_hi {c : UInt8} (h1 : ¬ (c.toNat : Int) ≤ 57) : isDig c = false := by simp only [isDig, h1, decide_false, Bool.and_false]
theorem okc_iff_letter {k : Nat} {c : UInt8} (h : isLet c = true) : (if ((k : Int) == 0) = true then isLet c else okc c) = true := by rw [okc_letter h, h]; simp
theorem okc_iff_zero {k : Nat} {c : UInt8} (hk : ((k : Int) == 0) = true) (h : isLet c = false) : (if ((k : Int) == 0) = true then isLet c else okc c) = false := by rw [hk, h]; simp
theorem okc_iff_more {k : Nat} {c : UInt8} {b : Bool} (hk : ((k : Int) == 0) = false) (h : okc c = b) : (if ((k : Int) == 0) = true then isLet c else okc c) = b := by rw [hk, h]; simp

set_option maxHeartbeats 2000000 in
theorem refName_any (s : ByteArray) (w : World) (hs : s.size ≤ maxLen) :
    Calls Tryz.prog 91 #[.string s] w fun e w' => e = .returned (.bool (isName s.data.toList)) ∧ w = w' := by
  unfold maxLen at hs
  go_enter Tryz.func91, Tryz.ntmps91
  go_wp2
  go_loop [3] (fun i => ∃ k : Nat, k ≤ s.size ∧ Hid (okFrom (s.data.toList.take k) = true) ∧ i = .int .i64 k) (fun i => s.size - (intOf i).toNat)
  case atStart => exact ⟨0, Nat.zero_le _, rfl, rfl⟩
  case round =>
    obtain ⟨k, hk, HK, rfl⟩ := hrel
    by_cases hlt : k < s.size
    · have HS := Lib.hid (ok_next s k hlt HK.out)
      by_cases h1 : 97 ≤ (s[k].toNat : Int)
      · by_cases h2 : (s[k].toNat : Int) ≤ 122
        · have HL := Lib.hid (okc_iff_letter (k := k) (isLet_mk h1 h2))
          have d1 : decide (97 ≤ (s[k].toNat : Int)) = true := by simpa using h1
          have d2 : decide ((s[k].toNat : Int) ≤ 122) = true := by simpa using h2
          go_wp2
          go_round
          case rel => exact ⟨k + 1, by omega, HS.out.trans (HL.out), by go_num⟩
          case measure => simp [intOf]; omega
        · have HL := Lib.hid (isLet_hi h2)
          have d2 : decide ((s[k].toNat : Int) ≤ 122) = false := by simpa using h2
          have d4 : decide ((s[k].toNat : Int) ≤ 57) = false := by simp; omega
          have d5 : ((s[k].toNat : Int) != 95) = true := by simp; omega
          have HO := Lib.hid (okc_none (isLet_hi h2) (isDig_hi (by omega)) (by simp; omega))
          cases hk0 : ((k : Int) == 0) with
          | true =>
            have HZ := Lib.hid (okc_iff_zero hk0 HL.out)
            go_wp2
            go_ret
            exact ⟨ret_bool (name_bad (HS.out.trans (HZ.out))).symm, rfl⟩
          | false =>
            have HZ := Lib.hid (okc_iff_more hk0 HO.out)
            go_wp2
            go_ret
            exact ⟨ret_bool (name_bad (HS.out.trans (HZ.out))).symm, rfl⟩
      · have HL := Lib.hid (isLet_lo h1)
        have d1 : decide (97 ≤ (s[k].toNat : Int)) = false := by simpa using h1
        cases hk0 : ((k : Int) == 0) with
        | true =>
          have HZ := Lib.hid (okc_iff_zero hk0 HL.out)
          go_wp2
          go_ret
          exact ⟨ret_bool (name_bad (HS.out.trans (HZ.out))).symm, rfl⟩
        | false =>
          by_cases h3 : 48 ≤ (s[k].toNat : Int)
          · by_cases h4 : (s[k].toNat : Int) ≤ 57
            · have HZ := Lib.hid (okc_iff_more hk0 (okc_digit (isDig_mk h3 h4)))
              have d3 : decide (48 ≤ (s[k].toNat : Int)) = true := by simpa using h3
              have d4 : decide ((s[k].toNat : Int) ≤ 57) = true := by simpa using h4
              go_wp2
              go_round
              case rel => exact ⟨k + 1, by omega, HS.out.trans (HZ.out), by go_num⟩
              case measure => simp [intOf]; omega
            · have d3 : decide (48 ≤ (s[k].toNat : Int)) = true := by simpa using h3
              have d4 : decide ((s[k].toNat : Int) ≤ 57) = false := by simpa using h4
              cases h5 : ((s[k].toNat : Int) == 95) with
              | true =>
                have HZ := Lib.hid (okc_iff_more hk0 (okc_under h5))
                have d5 := neq95_false h5
                go_wp2
                go_round
                case rel => exact ⟨k + 1, by omega, HS.out.trans (HZ.out), by go_num⟩
                case measure => simp [intOf]; omega
              | false =>
                have HZ := Lib.hid (okc_iff_more hk0 (okc_none HL.out (isDig_hi h4) h5))
                have d5 := neq95_true h5
                go_wp2
                go_ret
                exact ⟨ret_bool (name_bad (HS.out.trans (HZ.out))).symm, rfl⟩
          · have d3 : decide (48 ≤ (s[k].toNat : Int)) = false := by simpa using h3
            have d5 : ((s[k].toNat : Int) != 95) = true := by simp; omega
            have HZ := Lib.hid (okc_iff_more hk0 (okc_none HL.out (isDig_lo h3) (by simp; omega)))
            go_wp2
            go_ret
            exact ⟨ret_bool (name_bad (HS.out.trans (HZ.out))).symm, rfl⟩
    · have HN := Lib.hid (name_all (Nat.le_of_not_lt hlt) HK.out)
      by_cases h1 : 1 ≤ (s.size : Int)
      · have d1 : decide (1 ≤ (s.size : Int)) = true := by simpa using h1
        go_wp2
        go_ret
        exact ⟨ret_bool (by rw [HN.out, d1]; rfl), rfl⟩
      · have d1 : decide (1 ≤ (s.size : Int)) = false := by simpa using h1
        go_wp2
        go_ret
        exact ⟨ret_bool (by rw [HN.out, d1]; rfl), rfl⟩

end Go.Proofs.YtlfakhjcpdkaiaaGreatDoor
