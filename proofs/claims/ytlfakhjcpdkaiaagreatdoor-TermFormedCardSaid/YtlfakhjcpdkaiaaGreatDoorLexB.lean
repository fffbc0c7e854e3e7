/- Bytes and words: what each small function of lex answers. Conditions: texts no longer than Go's longest. -/
import Derived.Test.YtlfakhjcpdkaiaaGreatDoorLexA
import Derived.Test.YtlfakhjcpdkaiaaGreatDoorValPv
import Derived.Deep.QuietTactic
import Derived.BigQuiet
namespace Go.Proofs.YtlfakhjcpdkaiaaGreatDoor
open Go.RowKit Go.Deep

/-- a list of bytes as a text. -/
abbrev bts (l : List UInt8) : ByteArray := ⟨l.toArray⟩
theorem bts_of (s : ByteArray) : bts s.data.toList = s := by
  obtain ⟨d⟩ := s
  simp [bts]
theorem bts_size (l : List UInt8) : (bts l).size = l.length := by simp [ByteArray.size]

set_option maxRecDepth 100000 in
set_option maxHeartbeats 400000 in
theorem upper_any (c : UInt8) (b : Bool) (h : upB c = b) (w : World) :
    Calls Tryz.prog 102 #[.int .u8 c.toNat] w fun e w' => e = .returned (.bool b) ∧ w = w' := by
  subst h
  by_cases h1 : 65 ≤ (c.toNat : Int)
  · by_cases h2 : (c.toNat : Int) ≤ 90
    · have hb : upB c = true := by simp only [upB, h1, h2]; rfl
      rw [hb]; clear hb
      go_enter Tryz.func102, Tryz.ntmps102
      go_wp2
      go_ret
      exact ⟨rfl, rfl⟩
    · have hb : upB c = false := by simp only [upB, h2]; simp
      rw [hb]; clear hb
      go_enter Tryz.func102, Tryz.ntmps102
      go_wp2
      go_ret
      exact ⟨rfl, rfl⟩
  · have hb : upB c = false := by simp only [upB, h1]; simp
    rw [hb]; clear hb
    go_enter Tryz.func102, Tryz.ntmps102
    go_wp2
    go_ret
    exact ⟨rfl, rfl⟩

/-- the five ways of a byte. -/
theorem wb_cases (c : UInt8) : (97 ≤ (c.toNat : Int) ∧ (c.toNat : Int) ≤ 122 ∧ wb c = true) ∨
    ((¬ 97 ≤ (c.toNat : Int) ∨ ¬ (c.toNat : Int) ≤ 122) ∧ (upB c = true ∧ wb c = true ∨ upB c = false ∧ (48 ≤ (c.toNat : Int) ∧ (c.toNat : Int) ≤ 57 ∧ wb c = true ∨ (¬ 48 ≤ (c.toNat : Int) ∨ ¬ (c.toNat : Int) ≤ 57) ∧ wb c = ((c.toNat : Int) == 95)))) := by
  by_cases h1 : 97 ≤ (c.toNat : Int) ∧ (c.toNat : Int) ≤ 122
  · exact .inl ⟨h1.1, h1.2, by simp [wb, isLet, h1.1, h1.2]⟩
  · have e1 : isLet c = false := by simpa [isLet] using h1
    refine .inr ⟨by omega, ?_⟩
    cases h2 : upB c with
    | true => exact .inl ⟨rfl, by simp [wb, h2]⟩
    | false =>
      refine .inr ⟨rfl, ?_⟩
      by_cases h3 : 48 ≤ (c.toNat : Int) ∧ (c.toNat : Int) ≤ 57
      · exact .inl ⟨h3.1, h3.2, by simp [wb, isDig, h3.1, h3.2]⟩
      · have e3 : isDig c = false := by simpa [isDig] using h3
        exact .inr ⟨by omega, by simp only [wb, e1, h2, e3, Bool.false_or]⟩

set_option maxRecDepth 100000 in
set_option maxHeartbeats 1000000 in
theorem wordByte_any (c : UInt8) (w : World) :
    Calls Tryz.prog 95 #[.int .u8 c.toNat] w fun e w' => e = .returned (.bool (wb c)) ∧ w = w' := by
  rcases wb_cases c with ⟨h1, h2, h⟩ | ⟨h1, ⟨h2, h⟩ | ⟨h2, ⟨h3, h4, h⟩ | ⟨h3, h⟩⟩⟩
  · rw [h]; clear h
    go_enter Tryz.func95, Tryz.ntmps95
    go_wp2
    go_ret
    exact ⟨rfl, rfl⟩
  · rw [h]; clear h
    have H2 := Lib.hid h2
    clear h2
    rcases h1 with h1 | h1
    all_goals
      go_enter Tryz.func95, Tryz.ntmps95
      go_wp2_with (go_at_call 102; refine (upper_any _ _ H2.out _).mono ?_; rintro e w' ⟨rfl, rfl⟩)
    all_goals
      go_ret
      exact ⟨rfl, rfl⟩
  · rw [h]; clear h
    have H2 := Lib.hid h2
    clear h2
    rcases h1 with h1 | h1
    all_goals
      go_enter Tryz.func95, Tryz.ntmps95
      go_wp2_with (go_at_call 102; refine (upper_any _ _ H2.out _).mono ?_; rintro e w' ⟨rfl, rfl⟩)
    all_goals
      go_ret
      exact ⟨rfl, rfl⟩
  · have H := Lib.hid h
    have H2 := Lib.hid h2
    clear h2 h
    rcases h1 with h1 | h1 <;> rcases h3 with h3 | h3
    all_goals
      go_enter Tryz.func95, Tryz.ntmps95
      go_wp2_with (go_at_call 102; refine (upper_any _ _ H2.out _).mono ?_; rintro e w' ⟨rfl, rfl⟩)
    all_goals
      go_ret
      exact ⟨ret_bool (by have e := H.out; rw [e]; try (rw [decide_eq_false (by omega)]; rfl)), rfl⟩
theorem wordByte_is (c : UInt8) (b : Bool) (h : wb c = b) (w : World) : Calls Tryz.prog 95 #[.int .u8 c.toNat] w fun e w' => e = .returned (.bool b) ∧ w = w' := by
  rw [← h]; exact wordByte_any c w

/-- how many bytes of words a text begins with. -/
def wordN (l : List UInt8) : Nat := (l.takeWhile wb).length
theorem wordN_le (l : List UInt8) : wordN l ≤ l.length := (List.takeWhile_prefix _).length_le
theorem wordN_take (l : List UInt8) : l.take (wordN l) = l.takeWhile wb := by
  obtain ⟨r, hr⟩ := List.takeWhile_prefix (p := wb) (l := l)
  unfold wordN
  conv => lhs; arg 2; rw [← hr]
  rw [List.take_left]
theorem wordN_lt {l : List UInt8} {k : Nat} (hk : k < wordN l) (hl : k < l.length) : wb l[k] = true := by
  have h : l[k] ∈ l.takeWhile wb := by
    rw [← wordN_take]
    exact List.mem_take_iff_getElem.2 ⟨k, by omega, rfl⟩
  exact mem_takeWhile h
theorem wordN_at : ∀ {l : List UInt8} (hk : wordN l < l.length), wb l[wordN l] = false
  | c :: r, hk => by
    cases h : wb c with
    | true =>
      have e : wordN (c :: r) = wordN r + 1 := by simp [wordN, h]
      simp only [e, List.getElem_cons_succ]
      exact wordN_at (by rw [e] at hk; simpa using hk)
    | false =>
      have e : wordN (c :: r) = 0 := by simp [wordN, h]
      simp only [e, List.getElem_cons_zero]
      exact h

set_option maxRecDepth 100000 in
set_option maxHeartbeats 1000000 in
theorem firstWord_any (s : ByteArray) (w : World) (hs : s.size ≤ maxLen) :
    Calls Tryz.prog 85 #[.string s] w fun e w' => e = .returned (.string (bts (s.data.toList.takeWhile wb))) ∧ w = w' := by
  unfold maxLen at hs
  have hle : wordN s.data.toList ≤ s.size := by simpa using wordN_le s.data.toList
  have HE : Hid (s.extract 0 (wordN s.data.toList) = bts (s.data.toList.takeWhile wb)) := by
    show _ = _
    rw [← wordN_take, ← bts_of (s.extract 0 _)]
    congr 1
    simp
  have HT : Hid (∀ k, k < wordN s.data.toList → (h : k < s.size) → wb s[k] = true) := fun k hk h => wordN_lt hk (by simpa using h)
  have HF : Hid ((h : wordN s.data.toList < s.size) → wb s[wordN s.data.toList] = false) := fun h => wordN_at (by simpa using h)
  generalize wordN s.data.toList = n at hle HE HT HF
  go_enter Tryz.func85, Tryz.ntmps85
  go_wp2
  go_loop [3] (fun i => ∃ k : Nat, k ≤ n ∧ i = .int .i64 k) (fun i => s.size - (intOf i).toNat)
  case atStart => exact ⟨0, Nat.zero_le _, rfl⟩
  case round =>
    obtain ⟨k, hk, rfl⟩ := hrel
    by_cases hlt : k < s.size
    · by_cases hkn : k < n
      · have H1 := Lib.hid (HT.out k hkn hlt)
        go_wp2_with (go_at_call 95; refine (wordByte_is _ _ H1.out _).mono ?_; rintro e w' ⟨rfl, rfl⟩)
        go_round
        case rel => exact ⟨k + 1, by omega, by go_num⟩
        case measure => simp [intOf]; omega
      · have hkn' : k = n := by omega
        subst hkn'
        have H1 := Lib.hid (HF.out hlt)
        go_wp2_with (go_at_call 95; refine (wordByte_is _ _ H1.out _).mono ?_; rintro e w' ⟨rfl, rfl⟩)
        go_ret
        exact ⟨by rw [← HE.out]; rfl, rfl⟩
    · have hkn' : k = n := by omega
      subst hkn'
      go_wp2
      go_ret
      exact ⟨by rw [← HE.out]; rfl, rfl⟩
end Go.Proofs.YtlfakhjcpdkaiaaGreatDoor
