/- What is skipped, and the token that is read. Conditions: texts of at most 2^47 bytes; lex's two tables and strconv's variables as they are laid. -/
import Derived.Test.YtlfakhjcpdkaiaaGreatDoorLexC
namespace Go.Proofs.YtlfakhjcpdkaiaaGreatDoor
open Go.RowKit Go.Deep

theorem drop_text (s : ByteArray) (k : Nat) : (s.extract k s.size).data.toList = s.data.toList.drop k := by
  simp [ByteArray.data_extract, List.take_of_length_le]
theorem drop_at (s : ByteArray) {k : Nat} (h : k < s.size) : s.data.toList.drop k = s[k] :: s.data.toList.drop (k + 1) := by
  have hl : k < s.data.toList.length := by simpa using h
  rw [List.drop_eq_getElem_cons hl]
  rfl

set_option maxRecDepth 100000 in
theorem sign_at {k : Nat} (hk : k < 14) (w : World) : (Instr.index 156 (.agg #[.string (bts [58,45]), .string (bts [33,61]), .string (bts [60,61]), .string (bts [62,61]), .string (bts [40]), .string (bts [41]), .string (bts [44]), .string (bts [46]), .string (bts [61]), .string (bts [60]), .string (bts [62]), .string (bts [43]), .string (bts [45]), .string (bts [42])]) (.int .i64 k)).run Tryz.prog w = .ok (.string (bts (signsL.getD k []))) w := by
  obtain rfl | rfl | rfl | rfl | rfl | rfl | rfl | rfl | rfl | rfl | rfl | rfl | rfl | rfl : k = 0 ∨ k = 1 ∨ k = 2 ∨ k = 3 ∨ k = 4 ∨ k = 5 ∨ k = 6 ∨ k = 7 ∨ k = 8 ∨ k = 9 ∨ k = 10 ∨ k = 11 ∨ k = 12 ∨ k = 13 := by omega
  all_goals kernel_rfl
theorem sign_yes {l : List UInt8} {k : Nat} (hk : k < 14) (h : Lib.hasPrefix l (signsL.getD k []) = true) (hn : ∀ j < k, Lib.hasPrefix l (signsL.getD j []) = false) : signOf l = some (signsL.getD k []) := by
  have hk8 : k < signsL.length := hk
  have hg : ∀ j (hj : j < signsL.length), signsL.getD j [] = signsL[j] := fun j hj => by rw [List.getD_eq_getElem?_getD, List.getElem?_eq_getElem hj]; rfl
  unfold signOf
  rw [List.find?_eq_some_iff_getElem]
  refine ⟨h, k, hk8, (hg k hk8).symm, fun j hj => ?_⟩
  have := hn j hj
  rw [hg j (by omega)] at this
  simpa [Lib.hasPrefix] using this
theorem sign_no {l : List UInt8} (hn : ∀ j < 14, Lib.hasPrefix l (signsL.getD j []) = false) : signOf l = none := by
  have hg : ∀ j (hj : j < signsL.length), signsL.getD j [] = signsL[j] := fun j hj => by rw [List.getD_eq_getElem?_getD, List.getElem?_eq_getElem hj]; rfl
  unfold signOf
  rw [List.find?_eq_none]
  intro p hp
  obtain ⟨j, hj, rfl⟩ := List.mem_iff_getElem.1 hp
  have := hn j hj
  rw [hg j hj] at this
  simp only [Lib.hasPrefix] at this
  simp [this]
/-- a sign and its kind. -/
def signV : Option (List UInt8) → Value
  | some p => .tuple #[.string (bts p), .int .i64 5]
  | none => .tuple #[.string noText, .int .i64 0]
theorem pre_is (s : ByteArray) (t : List UInt8) (b : Bool) (h : Lib.hasPrefix s.data.toList t = b) (w : World) : Calls Tryz.prog 99 #[.string s, .string (bts t)] w fun e w' => e = .returned (.bool b) ∧ w = w' :=
  (Tryz.strings_HasPrefix s (bts t) w).mono fun e w' ⟨h1, h2⟩ => ⟨by rw [h1, ← h], h2.symm⟩

set_option maxRecDepth 100000 in
set_option maxHeartbeats 1000000 in
theorem firstSign_any (s : ByteArray) (w : World) (hk : SignsAt w) :
    Calls Tryz.prog 87 #[.string s] w fun e w' => e = .returned (signV (signOf s.data.toList)) ∧ w = w' := by
  have c0 := hk 0 _ rfl
  have c1 := hk 1 _ rfl
  have c2 := hk 2 _ rfl
  have c3 := hk 3 _ rfl
  have c4 := hk 4 _ rfl
  have c5 := hk 5 _ rfl
  have c6 := hk 6 _ rfl
  have c7 := hk 7 _ rfl
  have c8 := hk 8 _ rfl
  have c9 := hk 9 _ rfl
  have c10 := hk 10 _ rfl
  have c11 := hk 11 _ rfl
  have c12 := hk 12 _ rfl
  have c13 := hk 13 _ rfl
  clear hk
  go_enter Tryz.func87, Tryz.ntmps87
  go_wp2
  clear c0 c1 c2 c3 c4 c5 c6 c7 c8 c9 c10 c11 c12 c13
  go_loop [7] (fun i => ∃ k : Nat, k ≤ 14 ∧ i = .int .i64 k ∧ Hid (∀ j < k, Lib.hasPrefix s.data.toList (signsL.getD j []) = false)) (fun i => 14 - (intOf i).toNat)
  case atStart => exact ⟨0, Nat.zero_le _, rfl, fun _ h => absurd h (by omega)⟩
  case round =>
    obtain ⟨k, hk, rfl, HK⟩ := hrel
    by_cases hlt : k < 14
    · have hx := sign_at hlt
      cases he : Lib.hasPrefix s.data.toList (signsL.getD k []) with
      | true =>
        have HP := Lib.hid (pre_is s _ true he w)
        have HQ := Lib.hid (sign_yes hlt he HK.out)
        clear he HK
        generalize signsL.getD k [] = t at hx HP HQ
        go_wp2_with fail
        refine HP.out.mono ?_
        rintro e w' ⟨rfl, rfl⟩
        go_wp2
        go_ret2
        exact ⟨by rw [HQ.out]; rfl, rfl⟩
      | false =>
        have HP := Lib.hid (pre_is s _ false he w)
        have HQ : Hid (∀ j < k + 1, Lib.hasPrefix s.data.toList (signsL.getD j []) = false) := fun j hj => by
          by_cases h : j = k
          · subst h; exact he
          · exact HK.out j (by omega)
        clear he HK
        generalize signsL.getD k [] = t at hx HP
        go_wp2_with fail
        refine HP.out.mono ?_
        rintro e w' ⟨rfl, rfl⟩
        go_wp2
        go_round
        case rel => exact ⟨k + 1, by omega, by go_num, HQ⟩
        case measure => simp [intOf]; omega
    · have HQ := Lib.hid (sign_no fun j hj => HK.out j (by omega))
      go_wp2
      go_ret2
      exact ⟨by rw [HQ.out]; rfl, rfl⟩

theorem index_line : ∀ l : List UInt8, Lib.indexByte l 10 = if lineN l < l.length then (lineN l : Int) else -1
  | [] => by simp [Lib.indexByte, lineN]
  | c :: r => by
    have ih := index_line r
    have hle := line_le r
    by_cases h : lfB c = true
    · have e : lineN (c :: r) = 0 := by simp [lineN, h]
      have hc : (c == 10) = true := by
        simp only [lfB, beq_iff_eq] at h
        simp only [beq_iff_eq]
        apply UInt8.toNat_inj.1
        simpa using (by omega : c.toNat = 10)
      simp [Lib.indexByte, e, hc]
    · have e : lineN (c :: r) = lineN r + 1 := by simp [lineN, h]
      have hc : (c == 10) = false := by
        simp only [beq_eq_false_iff_ne]
        rintro rfl
        exact h (by decide)
      simp only [Lib.indexByte, e, hc, Bool.false_eq_true, if_false, ih, List.length_cons]
      by_cases hl : lineN r < r.length
      · have : ((lineN r : Int) == -1) = false := by simp only [beq_eq_false_iff_ne]; omega
        simp [hl, this]
      · simp [hl]

theorem ret_i64 {a b : Int} (h : a = b) : Ending.returned (.int .i64 a) = Ending.returned (.int .i64 b) := by rw [h]

set_option maxRecDepth 100000 in
set_option maxHeartbeats 400000 in
theorem lineEnd_any (s : ByteArray) (k : Nat) (w : World) (hs : s.size ≤ maxLen) (hk : k ≤ s.size) :
    Calls Tryz.prog 84 #[.string s, .int .i64 k] w fun e w' => e = .returned (.int .i64 ((k + lineN (s.data.toList.drop k) : Nat) : Int)) ∧ w = w' := by
  unfold maxLen at hs
  have HP := Lib.hid (Tryz.strings_IndexByte (s.extract k s.size) 10 w)
  rw [drop_text, show ((10 : Int).toNat.toUInt8) = 10 from rfl, index_line] at HP
  have hle := line_le (s.data.toList.drop k)
  have hdl : (s.data.toList.drop k).length = s.size - k := by simp
  rw [hdl] at hle HP
  generalize lineN (s.data.toList.drop k) = n at HP hle ⊢
  clear hdl
  by_cases hn : n < s.size - k
  · rw [if_pos hn] at HP
    go_enter Tryz.func84, Tryz.ntmps84
    go_wp2_with fail
    refine HP.out.mono ?_
    rintro e w' ⟨rfl, hw⟩
    subst hw
    go_wp2
    go_ret
    exact ⟨ret_i64 (by omega), rfl⟩
  · rw [if_neg hn] at HP
    have he : n = s.size - k := by omega
    go_enter Tryz.func84, Tryz.ntmps84
    go_wp2_with fail
    refine HP.out.mono ?_
    rintro e w' ⟨rfl, hw⟩
    subst hw
    go_wp2
    go_ret
    exact ⟨ret_i64 (by omega), rfl⟩

/-- the six ways of a byte that may be skipped. -/
theorem bl_cases (c : UInt8) : (((c.toNat : Int) == 9) = true ∧ blB c = true) ∨ (((c.toNat : Int) == 9) = false ∧ ((c.toNat : Int) == 10) = true ∧ blB c = true) ∨ (((c.toNat : Int) == 9) = false ∧ ((c.toNat : Int) == 10) = false ∧ ((c.toNat : Int) == 13) = true ∧ blB c = true) ∨
    (((c.toNat : Int) == 9) = false ∧ ((c.toNat : Int) == 10) = false ∧ ((c.toNat : Int) == 13) = false ∧ ((c.toNat : Int) == 32) = true ∧ blB c = true) ∨ (((c.toNat : Int) == 9) = false ∧ ((c.toNat : Int) == 10) = false ∧ ((c.toNat : Int) == 13) = false ∧ ((c.toNat : Int) == 32) = false ∧ ((c.toNat : Int) == 37) = true ∧ blB c = false ∧ perB c = true) ∨
    (((c.toNat : Int) == 9) = false ∧ ((c.toNat : Int) == 10) = false ∧ ((c.toNat : Int) == 13) = false ∧ ((c.toNat : Int) == 32) = false ∧ ((c.toNat : Int) == 37) = false ∧ blB c = false ∧ perB c = false) := by
  unfold blB perB
  cases ((c.toNat : Int) == 9) <;> cases ((c.toNat : Int) == 10) <;> cases ((c.toNat : Int) == 13) <;> cases ((c.toNat : Int) == 32) <;> cases ((c.toNat : Int) == 37) <;> simp

set_option maxRecDepth 100000 in
set_option maxHeartbeats 1000000 in
theorem skip_any (s : ByteArray) (k0 : Nat) (w : World) (hs : s.size ≤ maxLen) (hk0 : k0 ≤ s.size) :
    Calls Tryz.prog 74 #[.string s, .int .i64 k0] w fun e w' => e = .returned (.int .i64 ((k0 + skipN false (s.data.toList.drop k0) : Nat) : Int)) ∧ w = w' := by
  have hs' := hs
  unfold maxLen at hs
  obtain ⟨n, hn⟩ : ∃ n, k0 + skipN false (s.data.toList.drop k0) = n := ⟨_, rfl⟩
  have H0 : Hid (k0 + skipN false (s.data.toList.drop k0) = n) := hn
  rw [hn]
  clear hn
  go_enter Tryz.func74, Tryz.ntmps74
  go_wp2
  go_loop [1] (fun i => ∃ k : Nat, k ≤ s.size ∧ i = .int .i64 k ∧ Hid (k + skipN false (s.data.toList.drop k) = n)) (fun i => s.size - (intOf i).toNat)
  case atStart => exact ⟨k0, hk0, rfl, H0⟩
  case round =>
    obtain ⟨k, hk, rfl, HK⟩ := hrel
    by_cases hlt : k < s.size
    · have hd := drop_at s hlt
      have HN : Hid (blB s[k] = true → k + 1 + skipN false (s.data.toList.drop (k + 1)) = n) := fun h => by
        have := HK.out
        rw [hd, skip_bl h] at this
        omega
      have HP : Hid (blB s[k] = false → perB s[k] = true → k + lineN (s.data.toList.drop k) + skipN false (s.data.toList.drop (k + lineN (s.data.toList.drop k))) = n ∧ 0 < lineN (s.data.toList.drop k) ∧ lineN (s.data.toList.drop k) ≤ s.size - k) := fun h h' => by
        have := HK.out
        have e := skip_per (r := s.data.toList.drop (k + 1)) h h'
        have hlf : lfB s[k] = false := by
          cases hl : lfB s[k] with
          | false => rfl
          | true => rw [lf_bl hl] at h; cases h
        rw [← hd] at e
        rw [e, List.drop_drop] at this
        refine ⟨by omega, ?_, ?_⟩
        · rw [hd]; simp [lineN, hlf]
        · have := line_le (s.data.toList.drop k)
          simpa using this
      have HE : Hid (blB s[k] = false → perB s[k] = false → k = n) := fun h h' => by
        have := HK.out
        rw [hd, skip_no h h'] at this
        omega
      have HL := Lib.hid (lineEnd_any s k w hs' hk)
      clear hd HK
      rcases bl_cases s[k] with ⟨a1, b⟩ | ⟨a1, a2, b⟩ | ⟨a1, a2, a3, b⟩ | ⟨a1, a2, a3, a4, b⟩ | ⟨a1, a2, a3, a4, a5, b, b'⟩ | ⟨a1, a2, a3, a4, a5, b, b'⟩
      · have HQ := Lib.hid (HN.out b)
        clear b HN HP HE HL
        go_wp2
        go_round
        case rel => exact ⟨k + 1, by omega, by go_num, HQ⟩
        case measure => simp [intOf]; omega
      · have HQ := Lib.hid (HN.out b)
        clear b HN HP HE HL
        go_wp2
        go_round
        case rel => exact ⟨k + 1, by omega, by go_num, HQ⟩
        case measure => simp [intOf]; omega
      · have HQ := Lib.hid (HN.out b)
        clear b HN HP HE HL
        go_wp2
        go_round
        case rel => exact ⟨k + 1, by omega, by go_num, HQ⟩
        case measure => simp [intOf]; omega
      · have HQ := Lib.hid (HN.out b)
        clear b HN HP HE HL
        go_wp2
        go_round
        case rel => exact ⟨k + 1, by omega, by go_num, HQ⟩
        case measure => simp [intOf]; omega
      · obtain ⟨q1, q2, q3⟩ := HP.out b b'
        have HQ := Lib.hid q1
        clear b b' HN HP HE q1
        generalize lineN (s.data.toList.drop k) = m at HL HQ q2 q3
        go_wp2_with fail
        refine HL.out.mono ?_
        rintro e w' ⟨rfl, rfl⟩
        go_wp2
        go_round
        case rel => exact ⟨k + m, by omega, rfl, HQ⟩
        case measure => simp [intOf]; omega
      · have HQ := Lib.hid (HE.out b b')
        clear b b' HN HP HE HL
        go_wp2
        go_ret
        exact ⟨ret_i64 (by have := HQ.out; omega), rfl⟩
    · have HQ : Hid (k = n) := by
        show _ = _
        have := HK.out
        rw [List.drop_eq_nil_of_le (by simp; omega)] at this
        simpa [skipN] using this
      clear HK
      go_wp2
      go_ret
      exact ⟨ret_i64 (by have := HQ.out; omega), rfl⟩
end Go.Proofs.YtlfakhjcpdkaiaaGreatDoor
