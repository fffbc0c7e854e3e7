/- Bytes and words: what each small function of lex answers. Conditions: texts no longer than Go's longest. Words: what kind they are. Conditions: texts of at most 2^47 bytes; lex's two tables and strconv's variables as they are laid. What is skipped, and the token that is read. Conditions: texts of at most 2^47 bytes; lex's two tables and strconv's variables as they are laid. -/
import Derived.Test.YtolnikpihedmbaaGreatDoorPbA
import Derived.Test.YtolnikpihedmbaaGreatDoorPbB
import Derived.Deep.QuietTactic
import Derived.BigQuiet
namespace Go.Proofs.YtolnikpihedmbaaGreatDoor
open Go.RowKit Go.Deep

/-- a list of bytes as a text. -/
abbrev bts (l : List UInt8) : ByteArray := ⟨l.toArray⟩
theorem bts_of (s : ByteArray) : bts s.data.toList = s := by
  obtain ⟨d⟩ := s
  simp [bts]
theorem bts_size (l : List UInt8) : (bts l).size = l.length := by simp [ByteArray.size]

set_option maxRecDepth 100000 in
set_option maxHeartbeats 400000 in
theorem upper_any (c : UInt8) (b : Bool) (h : upB c = b) (w : World) :
    Calls Tryz.prog 106 #[.int .u8 c.toNat] w fun e w' => e = .returned (.bool b) ∧ w = w' := by
  subst h
  by_cases h1 : 65 ≤ (c.toNat : Int)
  · by_cases h2 : (c.toNat : Int) ≤ 90
    · have hb : upB c = true := by simp only [upB, h1, h2]; rfl
      rw [hb]; clear hb
      go_enter Tryz.func106, Tryz.ntmps106
      go_wp2
      go_ret
      exact ⟨rfl, rfl⟩
    · have hb : upB c = false := by simp only [upB, h2]; simp
      rw [hb]; clear hb
      go_enter Tryz.func106, Tryz.ntmps106
      go_wp2
      go_ret
      exact ⟨rfl, rfl⟩
  · have hb : upB c = false := by simp only [upB, h1]; simp
    rw [hb]; clear hb
    go_enter Tryz.func106, Tryz.ntmps106
    go_wp2
    go_ret
    exact ⟨rfl, rfl⟩

/-- the five ways of a byte. -/
theorem wb_cases (c : UInt8) : (97 ≤ (c.toNat : Int) ∧ (c.toNat : Int) ≤ 122 ∧ wb c = true) ∨
    ((¬ 97 ≤ (c.toNat : Int) ∨ ¬ (c.toNat : Int) ≤ 122) ∧ (upB c = true ∧ wb c = true ∨ upB c = false ∧ (48 ≤ (c.toNat : Int) ∧ (c.toNat : Int) ≤ 57 ∧ wb c = true ∨ (¬ 48 ≤ (c.toNat : Int) ∨ ¬ (c.toNat : Int) ≤ 57) ∧ wb c = ((c.toNat : Int) == 95)))) := by
  by_cases h1 : 97 ≤ (c.toNat : Int) ∧ (c.toNat : Int) ≤ 122
  · exact .inl ⟨h1.1, h1.2, by simp [wb, isLet, h1.1, h1.2]⟩
  · have e1 : isLet c = false := by simpa [isLet] using h1
    refine .inr ⟨by omega, ?_⟩
    cases h2 : upB c with
    | true => exact .inl ⟨rfl, by simp [wb, h2]⟩
    | false =>
      refine .inr ⟨rfl, ?_⟩
      by_cases h3 : 48 ≤ (c.toNat : Int) ∧ (c.toNat : Int) ≤ 57
      · exact .inl ⟨h3.1, h3.2, by simp [wb, isDig, h3.1, h3.2]⟩
      · have e3 : isDig c = false := by simpa [isDig] using h3
        exact .inr ⟨by omega, by simp only [wb, e1, h2, e3, Bool.false_or]⟩

set_option maxRecDepth 100000 in
set_option maxHeartbeats 1000000 in
theorem wordByte_any (c : UInt8) (w : World) :
    Calls Tryz.prog 93 #[.int .u8 c.toNat] w fun e w' => e = .returned (.bool (wb c)) ∧ w = w' := by
  rcases wb_cases c with ⟨h1, h2, h⟩ | ⟨h1, ⟨h2, h⟩ | ⟨h2, ⟨h3, h4, h⟩ | ⟨h3, h⟩⟩⟩
  · rw [h]; clear h
    go_enter Tryz.func93, Tryz.ntmps93
    go_wp2
    go_ret
    exact ⟨rfl, rfl⟩
  · rw [h]; clear h
    have H2 := Lib.hid h2
    clear h2
    rcases h1 with h1 | h1
    all_goals
      go_enter Tryz.func93, Tryz.ntmps93
      go_wp2_with (go_at_call 106; refine (upper_any _ _ H2.out _).mono ?_; rintro e w' ⟨rfl, rfl⟩)
    all_goals
      go_ret
      exact ⟨rfl, rfl⟩
  · rw [h]; clear h
    have H2 := Lib.hid h2
    clear h2
    rcases h1 with h1 | h1
    all_goals
      go_enter Tryz.func93, Tryz.ntmps93
      go_wp2_with (go_at_call 106; refine (upper_any _ _ H2.out _).mono ?_; rintro e w' ⟨rfl, rfl⟩)
    all_goals
      go_ret
      exact ⟨rfl, rfl⟩
  · have H := Lib.hid h
    have H2 := Lib.hid h2
    clear h2 h
    rcases h1 with h1 | h1 <;> rcases h3 with h3 | h3
    all_goals
      go_enter Tryz.func93, Tryz.ntmps93
      go_wp2_with (go_at_call 106; refine (upper_any _ _ H2.out _).mono ?_; rintro e w' ⟨rfl, rfl⟩)
    all_goals
      go_ret
      exact ⟨ret_bool (by have e := H.out; rw [e]; try (rw [decide_eq_false (by omega)]; rfl)), rfl⟩
theorem wordByte_is (c : UInt8) (b : Bool) (h : wb c = b) (w : World) : Calls Tryz.prog 93 #[.int .u8 c.toNat] w fun e w' => e = .returned (.bool b) ∧ w = w' := by
  rw [← h]; exact wordByte_any c w

/-- how many bytes of words a text begins with. -/
def wordN (l : List UInt8) : Nat := (l.takeWhile wb).length
theorem wordN_le (l : List UInt8) : wordN l ≤ l.length := (List.takeWhile_prefix _).length_le
theorem wordN_take (l : List UInt8) : l.take (wordN l) = l.takeWhile wb := by
  obtain ⟨r, hr⟩ := List.takeWhile_prefix (p := wb) (l := l)
  unfold wordN
  conv => lhs; arg 2; rw [← hr]
  rw [List.take_left]
theorem wordN_lt {l : List UInt8} {k : Nat} (hk : k < wordN l) (hl : k < l.length) : wb l[k] = true := by
  have h : l[k] ∈ l.takeWhile wb := by
    rw [← wordN_take]
    exact List.mem_take_iff_getElem.2 ⟨k, by omega, rfl⟩
  exact mem_takeWhile h
theorem wordN_at : ∀ {l : List UInt8} (hk : wordN l < l.length), wb l[wordN l] = false
  | c :: r, hk => by
    cases h : wb c with
    | true =>
      have e : wordN (c :: r) = wordN r + 1 := by simp [wordN, h]
      simp only [e, List.getElem_cons_succ]
      exact wordN_at (by rw [e] at hk; simpa using hk)
    | false =>
      have e : wordN (c :: r) = 0 := by simp [wordN, h]
      simp only [e, List.getElem_cons_zero]
      exact h

set_option maxRecDepth 100000 in
set_option maxHeartbeats 1000000 in
theorem firstWord_any (s : ByteArray) (w : World) (hs : s.size ≤ maxLen) :
    Calls Tryz.prog 84 #[.string s] w fun e w' => e = .returned (.string (bts (s.data.toList.takeWhile wb))) ∧ w = w' := by
  unfold maxLen at hs
  have hle : wordN s.data.toList ≤ s.size := by simpa using wordN_le s.data.toList
  have HE : Hid (s.extract 0 (wordN s.data.toList) = bts (s.data.toList.takeWhile wb)) := by
    show _ = _
    rw [← wordN_take, ← bts_of (s.extract 0 _)]
    congr 1
    simp
  have HT : Hid (∀ k, k < wordN s.data.toList → (h : k < s.size) → wb s[k] = true) := fun k hk h => wordN_lt hk (by simpa using h)
  have HF : Hid ((h : wordN s.data.toList < s.size) → wb s[wordN s.data.toList] = false) := fun h => wordN_at (by simpa using h)
  generalize wordN s.data.toList = n at hle HE HT HF
  go_enter Tryz.func84, Tryz.ntmps84
  go_wp2
  go_loop [3] (fun i => ∃ k : Nat, k ≤ n ∧ i = .int .i64 k) (fun i => s.size - (intOf i).toNat)
  case atStart => exact ⟨0, Nat.zero_le _, rfl⟩
  case round =>
    obtain ⟨k, hk, rfl⟩ := hrel
    by_cases hlt : k < s.size
    · by_cases hkn : k < n
      · have H1 := Lib.hid (HT.out k hkn hlt)
        go_wp2_with (go_at_call 93; refine (wordByte_is _ _ H1.out _).mono ?_; rintro e w' ⟨rfl, rfl⟩)
        go_round
        case rel => exact ⟨k + 1, by omega, by go_num⟩
        case measure => simp [intOf]; omega
      · have hkn' : k = n := by omega
        subst hkn'
        have H1 := Lib.hid (HF.out hlt)
        go_wp2_with (go_at_call 93; refine (wordByte_is _ _ H1.out _).mono ?_; rintro e w' ⟨rfl, rfl⟩)
        go_ret
        exact ⟨by rw [← HE.out]; rfl, rfl⟩
    · have hkn' : k = n := by omega
      subst hkn'
      go_wp2
      go_ret
      exact ⟨by rw [← HE.out]; rfl, rfl⟩
end Go.Proofs.YtolnikpihedmbaaGreatDoor

namespace Go.Proofs.YtolnikpihedmbaaGreatDoor
open Go.RowKit Go.Deep

/-- the table of keys, cell for cell. -/
def KeysAt (w : World) : Prop := ∀ (j : Nat) x, keysL[j]? = some x → w.cell? ⟨2, j, none⟩ = some (.string (bts x))
def SignsAt (w : World) : Prop := ∀ (j : Nat) x, signsL[j]? = some x → w.cell? ⟨1, j, none⟩ = some (.string (bts x))

set_option maxRecDepth 100000 in
theorem key_at {k : Nat} (hk : k < 8) (w : World) : (Instr.index 156 (.agg #[.string (bts [114,101,108]), .string (bts [105,110,116]), .string (bts [115,121,109]), .string (bts [110,111,116]), .string (bts [99,111,117,110,116]), .string (bts [115,117,109]), .string (bts [109,105,110]), .string (bts [109,97,120])]) (.int .i64 k)).run Tryz.prog w = .ok (.string (bts (keysL.getD k []))) w := by
  obtain rfl | rfl | rfl | rfl | rfl | rfl | rfl | rfl : k = 0 ∨ k = 1 ∨ k = 2 ∨ k = 3 ∨ k = 4 ∨ k = 5 ∨ k = 6 ∨ k = 7 := by omega
  all_goals kernel_rfl
theorem str_eq {s : ByteArray} {l : List UInt8} (h : s.data.toList = l) : (s.toList == l) = true := by
  rw [Lib.toList_data, h]
  simp
theorem str_ne {s : ByteArray} {l : List UInt8} (h : s.data.toList ≠ l) : (s.toList == l) = false := by
  rw [Lib.toList_data]
  simpa using h
/-- is it a key? -/
def keyB (l : List UInt8) : Bool := keysL.contains l
/-- is it a variable? -/
def varB : List UInt8 → Bool
  | [] => false
  | c :: r => upB c && decide ((((c :: r).length : Nat) : Int) ≤ 32)
theorem key_yes {l : List UInt8} {k : Nat} (hk : k < 8) (h : l = keysL.getD k []) : keyB l = true := by
  unfold keyB
  rw [List.contains_iff_mem, h]
  have hk8 : k < keysL.length := hk
  rw [List.getD_eq_getElem?_getD, List.getElem?_eq_getElem hk8]
  exact List.getElem_mem hk8
theorem key_no {l : List UInt8} (h : ∀ j < 8, l ≠ keysL.getD j []) : keyB l = false := by
  cases hc : keyB l with
  | false => rfl
  | true =>
    unfold keyB at hc
    rw [List.contains_iff_mem] at hc
    obtain ⟨j, hj, e⟩ := List.mem_iff_getElem.1 hc
    exact absurd (by rw [List.getD_eq_getElem?_getD, List.getElem?_eq_getElem hj]; exact e.symm) (h j hj)

set_option maxRecDepth 100000 in
set_option maxHeartbeats 1000000 in
theorem key_any (s : ByteArray) (w : World) (hk : KeysAt w) :
    Calls Tryz.prog 94 #[.string s] w fun e w' => e = .returned (.bool (keyB s.data.toList)) ∧ w = w' := by
  have c0 := hk 0 _ rfl
  have c1 := hk 1 _ rfl
  have c2 := hk 2 _ rfl
  have c3 := hk 3 _ rfl
  have c4 := hk 4 _ rfl
  have c5 := hk 5 _ rfl
  have c6 := hk 6 _ rfl
  have c7 := hk 7 _ rfl
  clear hk
  go_enter Tryz.func94, Tryz.ntmps94
  go_wp2
  clear c0 c1 c2 c3 c4 c5 c6 c7
  go_loop [6] (fun i => ∃ k : Nat, k ≤ 8 ∧ i = .int .i64 k ∧ Hid (∀ j < k, s.data.toList ≠ keysL.getD j [])) (fun i => 8 - (intOf i).toNat)
  case atStart => exact ⟨0, Nat.zero_le _, rfl, fun _ h => absurd h (by omega)⟩
  case round =>
    obtain ⟨k, hk, rfl, HK⟩ := hrel
    by_cases hlt : k < 8
    · have hx := key_at hlt
      by_cases he : s.data.toList = keysL.getD k []
      · have h1 := str_eq he
        have HQ := Lib.hid (key_yes hlt he)
        clear he
        generalize keysL.getD k [] = t at hx h1
        go_wp2
        go_ret
        exact ⟨ret_bool HQ.out.symm, rfl⟩
      · have h1 := str_ne he
        have HQ : Hid (∀ j < k + 1, s.data.toList ≠ keysL.getD j []) := fun j hj => by
          by_cases h : j = k
          · subst h; exact he
          · exact HK.out j (by omega)
        clear he HK
        generalize keysL.getD k [] = t at hx h1
        go_wp2
        go_round
        case rel => exact ⟨k + 1, by omega, by go_num, HQ⟩
        case measure => simp [intOf]; omega
    · have HQ := Lib.hid (key_no fun j hj => HK.out j (by omega))
      go_wp2
      go_ret
      exact ⟨ret_bool HQ.out.symm, rfl⟩

set_option maxRecDepth 100000 in
set_option maxHeartbeats 400000 in
theorem variable_any (s : ByteArray) (w : World) (hs : s.size ≤ maxLen) :
    Calls Tryz.prog 95 #[.string s] w fun e w' => e = .returned (.bool (varB s.data.toList)) ∧ w = w' := by
  unfold maxLen at hs
  by_cases h0 : 0 < s.size
  · have hne := (empty_not (s := s) (by omega)).2
    have hne2 := empty_not (s := s) (by omega)
    have HV : Hid (varB s.data.toList = (upB s[0] && decide ((s.size : Int) ≤ 32))) := by
      show _ = _
      have e : s.data.toList = s[0] :: s.data.toList.tail := by
        have hl : 0 < s.data.toList.length := by simpa using h0
        cases hc : s.data.toList with
        | nil => rw [hc] at hl; simp at hl
        | cons c r =>
          have : s[0] = s.data.toList[0] := rfl
          simp only [hc, List.getElem_cons_zero] at this
          rw [this]; rfl
      have hz : s.data.toList.length = s.size := by simp
      rw [← hz]
      conv => lhs; rw [e]
      simp only [varB]
      congr 1
      rw [← e]
    cases hu : upB s[0] with
    | true =>
      have H1 := Lib.hid hu
      rw [hu] at HV
      clear hu hne2
      go_enter Tryz.func95, Tryz.ntmps95
      go_wp2_with (go_at_call 106; refine (upper_any _ _ H1.out _).mono ?_; rintro e w' ⟨rfl, rfl⟩)
      go_ret
      exact ⟨ret_bool (by rw [HV.out]; simp), rfl⟩
    | false =>
      have H1 := Lib.hid hu
      rw [hu] at HV
      clear hu hne2
      go_enter Tryz.func95, Tryz.ntmps95
      go_wp2_with (go_at_call 106; refine (upper_any _ _ H1.out _).mono ?_; rintro e w' ⟨rfl, rfl⟩)
      go_ret
      exact ⟨ret_bool (by rw [HV.out]; simp), rfl⟩
  · obtain rfl := empty_of (s := s) (by omega)
    go_enter Tryz.func95, Tryz.ntmps95
    go_wp2
    go_ret
    exact ⟨rfl, rfl⟩

set_option maxRecDepth 100000 in
set_option maxHeartbeats 400000 in
theorem number_yes (s : ByteArray) (n : Int) (w : World) (hs : s.size ≤ maxLen) (hs2 : s.size ≤ 281474976710656) (hm : isName s.data.toList = false) (hp : pv s.data.toList = some n) (hT : Tabs w) :
    Calls Tryz.prog 96 #[.string s] w fun e w' => e = .returned (.bool true) ∧ Below w.heap.size w w' := by
  have HP := Lib.hid (Parse_some s w hs hs2 hm n hp hT)
  clear hp hm hT
  go_enter Tryz.func96, Tryz.ntmps96
  go_wp2_with fail
  refine HP.out.mono ?_
  rintro e w1 ⟨rfl, b1⟩
  have B1 := Lib.hid b1
  clear b1
  go_wp2
  go_ret
  exact ⟨rfl, B1.out.alloc B1.out.size _⟩
set_option maxRecDepth 100000 in
set_option maxHeartbeats 400000 in
theorem number_no (s : ByteArray) (w : World) (hs : s.size ≤ maxLen) (hs2 : s.size ≤ 281474976710656) (hm : isName s.data.toList = false) (hp : pv s.data.toList = none) (hT : Tabs w) :
    Calls Tryz.prog 96 #[.string s] w fun e w' => e = .returned (.bool false) ∧ Below w.heap.size w w' := by
  have HP := Lib.hid (Parse_none s w hs hs2 hm hp hT)
  clear hp hm hT
  have k1 : ∀ w, (binOp .eql 28 (eno 2) .nilIface).run Tryz.prog w = .ok (.bool false) w := fun w => by kernel_rfl
  go_enter Tryz.func96, Tryz.ntmps96
  go_wp2_with fail
  refine HP.out.mono ?_
  rintro e w1 ⟨rfl, b1⟩
  have B1 := Lib.hid b1
  clear b1
  go_wp2
  go_ret
  exact ⟨rfl, B1.out.alloc B1.out.size _⟩

/-- a word's kind: 1 key, 2 name, 3 var, 4 number, 0 none. -/
def kindW (l : List UInt8) : Nat := if keyB l = true then 1 else if isName l = true then 2 else if varB l = true then 3 else if (pv l).isSome = true then 4 else 0
set_option maxRecDepth 100000 in
set_option maxHeartbeats 1000000 in
theorem wordKind_any (s : ByteArray) (w : World) (hs : s.size ≤ maxLen) (hs2 : s.size ≤ 281474976710656) (hk : KeysAt w) (hT : Tabs w) :
    Calls Tryz.prog 85 #[.string s] w fun e w' => e = .returned (.int .i64 (kindW s.data.toList)) ∧ Below w.heap.size w w' := by
  have HK := Lib.hid (key_any s w hk)
  have HV := Lib.hid (variable_any s w hs)
  cases h1 : keyB s.data.toList with
  | true =>
    have HQ : Hid (kindW s.data.toList = 1) := by show _ = _; simp [kindW, h1]
    rw [h1] at HK
    clear h1 hk hT HV
    go_enter Tryz.func85, Tryz.ntmps85
    go_wp2_with fail
    refine HK.out.mono ?_
    rintro e w1 ⟨rfl, rfl⟩
    go_wp2
    go_ret
    exact ⟨by rw [HQ.out]; rfl, Below.refl _ _⟩
  | false =>
    rw [h1] at HK
    cases h2 : isName s.data.toList with
    | true =>
      have HQ : Hid (kindW s.data.toList = 2) := by show _ = _; simp [kindW, h1, h2]
      have HN := Lib.hid (Name_is s true h2 hs w)
      clear h1 h2 hk hT HV
      go_enter Tryz.func85, Tryz.ntmps85
      go_wp2_with fail
      refine HK.out.mono ?_
      rintro e w1 ⟨rfl, rfl⟩
      go_wp2_with fail
      refine HN.out.mono ?_
      rintro e w1 ⟨rfl, rfl⟩
      go_wp2
      go_ret
      exact ⟨by rw [HQ.out]; rfl, Below.refl _ _⟩
    | false =>
      have HN := Lib.hid (Name_is s false h2 hs w)
      cases h3 : varB s.data.toList with
      | true =>
        have HQ : Hid (kindW s.data.toList = 3) := by show _ = _; simp [kindW, h1, h2, h3]
        rw [h3] at HV
        clear h1 h2 h3 hk hT
        go_enter Tryz.func85, Tryz.ntmps85
        go_wp2_with fail
        refine HK.out.mono ?_
        rintro e w1 ⟨rfl, rfl⟩
        go_wp2_with fail
        refine HN.out.mono ?_
        rintro e w1 ⟨rfl, rfl⟩
        go_wp2_with fail
        refine HV.out.mono ?_
        rintro e w1 ⟨rfl, rfl⟩
        go_wp2
        go_ret
        exact ⟨by rw [HQ.out]; rfl, Below.refl _ _⟩
      | false =>
        rw [h3] at HV
        cases h4 : pv s.data.toList with
        | some n =>
          have HQ : Hid (kindW s.data.toList = 4) := by show _ = _; simp [kindW, h1, h2, h3, h4]
          have HP := Lib.hid (number_yes s n w hs hs2 h2 h4 hT)
          clear h1 h2 h3 h4 hk hT
          go_enter Tryz.func85, Tryz.ntmps85
          go_wp2_with fail
          refine HK.out.mono ?_
          rintro e w1 ⟨rfl, rfl⟩
          go_wp2_with fail
          refine HN.out.mono ?_
          rintro e w1 ⟨rfl, rfl⟩
          go_wp2_with fail
          refine HV.out.mono ?_
          rintro e w1 ⟨rfl, rfl⟩
          go_wp2_with fail
          refine HP.out.mono ?_
          rintro e w2 ⟨rfl, b2⟩
          have B2 := Lib.hid b2
          clear b2
          go_wp2
          go_ret
          exact ⟨by rw [HQ.out]; rfl, B2.out⟩
        | none =>
          have HQ : Hid (kindW s.data.toList = 0) := by show _ = _; simp [kindW, h1, h2, h3, h4]
          have HP := Lib.hid (number_no s w hs hs2 h2 h4 hT)
          clear h1 h2 h3 h4 hk hT
          go_enter Tryz.func85, Tryz.ntmps85
          go_wp2_with fail
          refine HK.out.mono ?_
          rintro e w1 ⟨rfl, rfl⟩
          go_wp2_with fail
          refine HN.out.mono ?_
          rintro e w1 ⟨rfl, rfl⟩
          go_wp2_with fail
          refine HV.out.mono ?_
          rintro e w1 ⟨rfl, rfl⟩
          go_wp2_with fail
          refine HP.out.mono ?_
          rintro e w2 ⟨rfl, b2⟩
          have B2 := Lib.hid b2
          clear b2
          go_wp2
          go_ret
          exact ⟨by rw [HQ.out]; rfl, B2.out⟩
end Go.Proofs.YtolnikpihedmbaaGreatDoor

namespace Go.Proofs.YtolnikpihedmbaaGreatDoor
open Go.RowKit Go.Deep

theorem drop_text (s : ByteArray) (k : Nat) : (s.extract k s.size).data.toList = s.data.toList.drop k := by
  simp [ByteArray.data_extract, List.take_of_length_le]
theorem drop_at (s : ByteArray) {k : Nat} (h : k < s.size) : s.data.toList.drop k = s[k] :: s.data.toList.drop (k + 1) := by
  have hl : k < s.data.toList.length := by simpa using h
  rw [List.drop_eq_getElem_cons hl]
  rfl

set_option maxRecDepth 100000 in
theorem sign_at {k : Nat} (hk : k < 14) (w : World) : (Instr.index 150 (.agg #[.string (bts [58,45]), .string (bts [33,61]), .string (bts [60,61]), .string (bts [62,61]), .string (bts [40]), .string (bts [41]), .string (bts [44]), .string (bts [46]), .string (bts [61]), .string (bts [60]), .string (bts [62]), .string (bts [43]), .string (bts [45]), .string (bts [42])]) (.int .i64 k)).run Tryz.prog w = .ok (.string (bts (signsL.getD k []))) w := by
  obtain rfl | rfl | rfl | rfl | rfl | rfl | rfl | rfl | rfl | rfl | rfl | rfl | rfl | rfl : k = 0 ∨ k = 1 ∨ k = 2 ∨ k = 3 ∨ k = 4 ∨ k = 5 ∨ k = 6 ∨ k = 7 ∨ k = 8 ∨ k = 9 ∨ k = 10 ∨ k = 11 ∨ k = 12 ∨ k = 13 := by omega
  all_goals kernel_rfl
theorem sign_yes {l : List UInt8} {k : Nat} (hk : k < 14) (h : Lib.hasPrefix l (signsL.getD k []) = true) (hn : ∀ j < k, Lib.hasPrefix l (signsL.getD j []) = false) : signOf l = some (signsL.getD k []) := by
  have hk8 : k < signsL.length := hk
  have hg : ∀ j (hj : j < signsL.length), signsL.getD j [] = signsL[j] := fun j hj => by rw [List.getD_eq_getElem?_getD, List.getElem?_eq_getElem hj]; rfl
  unfold signOf
  rw [List.find?_eq_some_iff_getElem]
  refine ⟨h, k, hk8, (hg k hk8).symm, fun j hj => ?_⟩
  have := hn j hj
  rw [hg j (by omega)] at this
  simpa [Lib.hasPrefix] using this
theorem sign_no {l : List UInt8} (hn : ∀ j < 14, Lib.hasPrefix l (signsL.getD j []) = false) : signOf l = none := by
  have hg : ∀ j (hj : j < signsL.length), signsL.getD j [] = signsL[j] := fun j hj => by rw [List.getD_eq_getElem?_getD, List.getElem?_eq_getElem hj]; rfl
  unfold signOf
  rw [List.find?_eq_none]
  intro p hp
  obtain ⟨j, hj, rfl⟩ := List.mem_iff_getElem.1 hp
  have := hn j hj
  rw [hg j hj] at this
  simp only [Lib.hasPrefix] at this
  simp [this]
/-- a sign and its kind. -/
def signV : Option (List UInt8) → Value
  | some p => .tuple #[.string (bts p), .int .i64 5]
  | none => .tuple #[.string noText, .int .i64 0]
theorem pre_is (s : ByteArray) (t : List UInt8) (b : Bool) (h : Lib.hasPrefix s.data.toList t = b) (w : World) : Calls Tryz.prog 97 #[.string s, .string (bts t)] w fun e w' => e = .returned (.bool b) ∧ w = w' :=
  (Tryz.strings_HasPrefix s (bts t) w).mono fun e w' ⟨h1, h2⟩ => ⟨by rw [h1, ← h], h2.symm⟩

set_option maxRecDepth 100000 in
set_option maxHeartbeats 1000000 in
theorem firstSign_any (s : ByteArray) (w : World) (hk : SignsAt w) :
    Calls Tryz.prog 86 #[.string s] w fun e w' => e = .returned (signV (signOf s.data.toList)) ∧ w = w' := by
  have c0 := hk 0 _ rfl
  have c1 := hk 1 _ rfl
  have c2 := hk 2 _ rfl
  have c3 := hk 3 _ rfl
  have c4 := hk 4 _ rfl
  have c5 := hk 5 _ rfl
  have c6 := hk 6 _ rfl
  have c7 := hk 7 _ rfl
  have c8 := hk 8 _ rfl
  have c9 := hk 9 _ rfl
  have c10 := hk 10 _ rfl
  have c11 := hk 11 _ rfl
  have c12 := hk 12 _ rfl
  have c13 := hk 13 _ rfl
  clear hk
  go_enter Tryz.func86, Tryz.ntmps86
  go_wp2
  clear c0 c1 c2 c3 c4 c5 c6 c7 c8 c9 c10 c11 c12 c13
  go_loop [7] (fun i => ∃ k : Nat, k ≤ 14 ∧ i = .int .i64 k ∧ Hid (∀ j < k, Lib.hasPrefix s.data.toList (signsL.getD j []) = false)) (fun i => 14 - (intOf i).toNat)
  case atStart => exact ⟨0, Nat.zero_le _, rfl, fun _ h => absurd h (by omega)⟩
  case round =>
    obtain ⟨k, hk, rfl, HK⟩ := hrel
    by_cases hlt : k < 14
    · have hx := sign_at hlt
      cases he : Lib.hasPrefix s.data.toList (signsL.getD k []) with
      | true =>
        have HP := Lib.hid (pre_is s _ true he w)
        have HQ := Lib.hid (sign_yes hlt he HK.out)
        clear he HK
        generalize signsL.getD k [] = t at hx HP HQ
        go_wp2_with fail
        refine HP.out.mono ?_
        rintro e w' ⟨rfl, rfl⟩
        go_wp2
        go_ret2
        exact ⟨by rw [HQ.out]; rfl, rfl⟩
      | false =>
        have HP := Lib.hid (pre_is s _ false he w)
        have HQ : Hid (∀ j < k + 1, Lib.hasPrefix s.data.toList (signsL.getD j []) = false) := fun j hj => by
          by_cases h : j = k
          · subst h; exact he
          · exact HK.out j (by omega)
        clear he HK
        generalize signsL.getD k [] = t at hx HP
        go_wp2_with fail
        refine HP.out.mono ?_
        rintro e w' ⟨rfl, rfl⟩
        go_wp2
        go_round
        case rel => exact ⟨k + 1, by omega, by go_num, HQ⟩
        case measure => simp [intOf]; omega
    · have HQ := Lib.hid (sign_no fun j hj => HK.out j (by omega))
      go_wp2
      go_ret2
      exact ⟨by rw [HQ.out]; rfl, rfl⟩

theorem index_line : ∀ l : List UInt8, Lib.indexByte l 10 = if lineN l < l.length then (lineN l : Int) else -1
  | [] => by simp [Lib.indexByte, lineN]
  | c :: r => by
    have ih := index_line r
    have hle := line_le r
    by_cases h : lfB c = true
    · have e : lineN (c :: r) = 0 := by simp [lineN, h]
      have hc : (c == 10) = true := by
        simp only [lfB, beq_iff_eq] at h
        simp only [beq_iff_eq]
        apply UInt8.toNat_inj.1
        simpa using (by omega : c.toNat = 10)
      simp [Lib.indexByte, e, hc]
    · have e : lineN (c :: r) = lineN r + 1 := by simp [lineN, h]
      have hc : (c == 10) = false := by
        simp only [beq_eq_false_iff_ne]
        rintro rfl
        exact h (by decide)
      simp only [Lib.indexByte, e, hc, Bool.false_eq_true, if_false, ih, List.length_cons]
      by_cases hl : lineN r < r.length
      · have : ((lineN r : Int) == -1) = false := by simp only [beq_eq_false_iff_ne]; omega
        simp [hl, this]
      · simp [hl]

theorem ret_i64 {a b : Int} (h : a = b) : Ending.returned (.int .i64 a) = Ending.returned (.int .i64 b) := by rw [h]

set_option maxRecDepth 100000 in
set_option maxHeartbeats 400000 in
theorem lineEnd_any (s : ByteArray) (k : Nat) (w : World) (hs : s.size ≤ maxLen) (hk : k ≤ s.size) :
    Calls Tryz.prog 83 #[.string s, .int .i64 k] w fun e w' => e = .returned (.int .i64 ((k + lineN (s.data.toList.drop k) : Nat) : Int)) ∧ w = w' := by
  unfold maxLen at hs
  have HP := Lib.hid (Tryz.strings_IndexByte (s.extract k s.size) 10 w)
  rw [drop_text, show ((10 : Int).toNat.toUInt8) = 10 from rfl, index_line] at HP
  have hle := line_le (s.data.toList.drop k)
  have hdl : (s.data.toList.drop k).length = s.size - k := by simp
  rw [hdl] at hle HP
  generalize lineN (s.data.toList.drop k) = n at HP hle ⊢
  clear hdl
  by_cases hn : n < s.size - k
  · rw [if_pos hn] at HP
    go_enter Tryz.func83, Tryz.ntmps83
    go_wp2_with fail
    refine HP.out.mono ?_
    rintro e w' ⟨rfl, hw⟩
    subst hw
    go_wp2
    go_ret
    exact ⟨ret_i64 (by omega), rfl⟩
  · rw [if_neg hn] at HP
    have he : n = s.size - k := by omega
    go_enter Tryz.func83, Tryz.ntmps83
    go_wp2_with fail
    refine HP.out.mono ?_
    rintro e w' ⟨rfl, hw⟩
    subst hw
    go_wp2
    go_ret
    exact ⟨ret_i64 (by omega), rfl⟩

/-- the six ways of a byte that may be skipped. -/
theorem bl_cases (c : UInt8) : (((c.toNat : Int) == 9) = true ∧ blB c = true) ∨ (((c.toNat : Int) == 9) = false ∧ ((c.toNat : Int) == 10) = true ∧ blB c = true) ∨ (((c.toNat : Int) == 9) = false ∧ ((c.toNat : Int) == 10) = false ∧ ((c.toNat : Int) == 13) = true ∧ blB c = true) ∨
    (((c.toNat : Int) == 9) = false ∧ ((c.toNat : Int) == 10) = false ∧ ((c.toNat : Int) == 13) = false ∧ ((c.toNat : Int) == 32) = true ∧ blB c = true) ∨ (((c.toNat : Int) == 9) = false ∧ ((c.toNat : Int) == 10) = false ∧ ((c.toNat : Int) == 13) = false ∧ ((c.toNat : Int) == 32) = false ∧ ((c.toNat : Int) == 37) = true ∧ blB c = false ∧ perB c = true) ∨
    (((c.toNat : Int) == 9) = false ∧ ((c.toNat : Int) == 10) = false ∧ ((c.toNat : Int) == 13) = false ∧ ((c.toNat : Int) == 32) = false ∧ ((c.toNat : Int) == 37) = false ∧ blB c = false ∧ perB c = false) := by
  unfold blB perB
  cases ((c.toNat : Int) == 9) <;> cases ((c.toNat : Int) == 10) <;> cases ((c.toNat : Int) == 13) <;> cases ((c.toNat : Int) == 32) <;> cases ((c.toNat : Int) == 37) <;> simp

set_option maxRecDepth 100000 in
set_option maxHeartbeats 1000000 in
theorem skip_any (s : ByteArray) (k0 : Nat) (w : World) (hs : s.size ≤ maxLen) (hk0 : k0 ≤ s.size) :
    Calls Tryz.prog 71 #[.string s, .int .i64 k0] w fun e w' => e = .returned (.int .i64 ((k0 + skipN false (s.data.toList.drop k0) : Nat) : Int)) ∧ w = w' := by
  have hs' := hs
  unfold maxLen at hs
  obtain ⟨n, hn⟩ : ∃ n, k0 + skipN false (s.data.toList.drop k0) = n := ⟨_, rfl⟩
  have H0 : Hid (k0 + skipN false (s.data.toList.drop k0) = n) := hn
  rw [hn]
  clear hn
  go_enter Tryz.func71, Tryz.ntmps71
  go_wp2
  go_loop [1] (fun i => ∃ k : Nat, k ≤ s.size ∧ i = .int .i64 k ∧ Hid (k + skipN false (s.data.toList.drop k) = n)) (fun i => s.size - (intOf i).toNat)
  case atStart => exact ⟨k0, hk0, rfl, H0⟩
  case round =>
    obtain ⟨k, hk, rfl, HK⟩ := hrel
    by_cases hlt : k < s.size
    · have hd := drop_at s hlt
      have HN : Hid (blB s[k] = true → k + 1 + skipN false (s.data.toList.drop (k + 1)) = n) := fun h => by
        have := HK.out
        rw [hd, skip_bl h] at this
        omega
      have HP : Hid (blB s[k] = false → perB s[k] = true → k + lineN (s.data.toList.drop k) + skipN false (s.data.toList.drop (k + lineN (s.data.toList.drop k))) = n ∧ 0 < lineN (s.data.toList.drop k) ∧ lineN (s.data.toList.drop k) ≤ s.size - k) := fun h h' => by
        have := HK.out
        have e := skip_per (r := s.data.toList.drop (k + 1)) h h'
        have hlf : lfB s[k] = false := by
          cases hl : lfB s[k] with
          | false => rfl
          | true => rw [lf_bl hl] at h; cases h
        rw [← hd] at e
        rw [e, List.drop_drop] at this
        refine ⟨by omega, ?_, ?_⟩
        · rw [hd]; simp [lineN, hlf]
        · have := line_le (s.data.toList.drop k)
          simpa using this
      have HE : Hid (blB s[k] = false → perB s[k] = false → k = n) := fun h h' => by
        have := HK.out
        rw [hd, skip_no h h'] at this
        omega
      have HL := Lib.hid (lineEnd_any s k w hs' hk)
      clear hd HK
      rcases bl_cases s[k] with ⟨a1, b⟩ | ⟨a1, a2, b⟩ | ⟨a1, a2, a3, b⟩ | ⟨a1, a2, a3, a4, b⟩ | ⟨a1, a2, a3, a4, a5, b, b'⟩ | ⟨a1, a2, a3, a4, a5, b, b'⟩
      · have HQ := Lib.hid (HN.out b)
        clear b HN HP HE HL
        go_wp2
        go_round
        case rel => exact ⟨k + 1, by omega, by go_num, HQ⟩
        case measure => simp [intOf]; omega
      · have HQ := Lib.hid (HN.out b)
        clear b HN HP HE HL
        go_wp2
        go_round
        case rel => exact ⟨k + 1, by omega, by go_num, HQ⟩
        case measure => simp [intOf]; omega
      · have HQ := Lib.hid (HN.out b)
        clear b HN HP HE HL
        go_wp2
        go_round
        case rel => exact ⟨k + 1, by omega, by go_num, HQ⟩
        case measure => simp [intOf]; omega
      · have HQ := Lib.hid (HN.out b)
        clear b HN HP HE HL
        go_wp2
        go_round
        case rel => exact ⟨k + 1, by omega, by go_num, HQ⟩
        case measure => simp [intOf]; omega
      · obtain ⟨q1, q2, q3⟩ := HP.out b b'
        have HQ := Lib.hid q1
        clear b b' HN HP HE q1
        generalize lineN (s.data.toList.drop k) = m at HL HQ q2 q3
        go_wp2_with fail
        refine HL.out.mono ?_
        rintro e w' ⟨rfl, rfl⟩
        go_wp2
        go_round
        case rel => exact ⟨k + m, by omega, rfl, HQ⟩
        case measure => simp [intOf]; omega
      · have HQ := Lib.hid (HE.out b b')
        clear b b' HN HP HE HL
        go_wp2
        go_ret
        exact ⟨ret_i64 (by have := HQ.out; omega), rfl⟩
    · have HQ : Hid (k = n) := by
        show _ = _
        have := HK.out
        rw [List.drop_eq_nil_of_le (by simp; omega)] at this
        simpa [skipN] using this
      clear HK
      go_wp2
      go_ret
      exact ⟨ret_i64 (by have := HQ.out; omega), rfl⟩
end Go.Proofs.YtolnikpihedmbaaGreatDoor
