/- Bytes and words: what each small function of lex answers. Conditions: texts no longer than Go's longest. Words: what kind they are. Conditions: texts of at most 2^47 bytes; lex's two tables and strconv's variables as they are laid. What is skipped, and the token that is read. Conditions: texts of at most 2^47 bytes; lex's two tables and strconv's variables as they are laid. Blocks that lie as they lay; a range over a function whose yields lie in memory of their own: the law. Conditions: none. The token at an offset; the iterator over all tokens. Conditions: texts of at most 2^47 bytes; lex's two tables and strconv's variables as they are laid. What a loop's body may turn; the iterator over all tokens. Conditions: texts of at most 2^47 bytes; lex's two tables and strconv's variables as they are laid. -/
import Derived.Test.YtikohamfnnlhcaaGreatDoorScA
import Derived.Test.YtikohamfnnlhcaaGreatDoorScB
import Derived.Deep.QuietTactic
import Derived.BigQuiet
import Derived.RangeFuncNested
import Derived.RangeFuncBound
import Derived.RangeFuncCalls
import Derived.RangeFuncLeaves
import Derived.ArgAppend
import Derived.Laws.AppendOwnNone
import Derived.Shelf.Abstract
import Derived.OwnWalkIn
import Derived.TacticsInMore
import Derived.LoopNIn
import Derived.LoopIn
import Derived.WalkSmall
namespace Go.Proofs.YtikohamfnnlhcaaGreatDoor
open Go.RowKit Go.Deep

/-- a list of bytes as a text. -/
abbrev bts (l : List UInt8) : ByteArray := ⟨l.toArray⟩
theorem bts_of (s : ByteArray) : bts s.data.toList = s := by
  obtain ⟨d⟩ := s
  simp [bts]
theorem bts_size (l : List UInt8) : (bts l).size = l.length := by simp [ByteArray.size]

set_option maxRecDepth 100000 in
set_option maxHeartbeats 400000 in
theorem upper_any (c : UInt8) (b : Bool) (h : upB c = b) (w : World) :
    Calls Tryz.prog 182 #[.int .u8 c.toNat] w fun e w' => e = .returned (.bool b) ∧ w = w' := by
  subst h
  by_cases h1 : 65 ≤ (c.toNat : Int)
  · by_cases h2 : (c.toNat : Int) ≤ 90
    · have hb : upB c = true := by simp only [upB, h1, h2]; rfl
      rw [hb]; clear hb
      go_enter Tryz.func182, Tryz.ntmps182
      go_wp2
      go_ret
      exact ⟨rfl, rfl⟩
    · have hb : upB c = false := by simp only [upB, h2]; simp
      rw [hb]; clear hb
      go_enter Tryz.func182, Tryz.ntmps182
      go_wp2
      go_ret
      exact ⟨rfl, rfl⟩
  · have hb : upB c = false := by simp only [upB, h1]; simp
    rw [hb]; clear hb
    go_enter Tryz.func182, Tryz.ntmps182
    go_wp2
    go_ret
    exact ⟨rfl, rfl⟩

/-- the five ways of a byte. -/
theorem wb_cases (c : UInt8) : (97 ≤ (c.toNat : Int) ∧ (c.toNat : Int) ≤ 122 ∧ wb c = true) ∨
    ((¬ 97 ≤ (c.toNat : Int) ∨ ¬ (c.toNat : Int) ≤ 122) ∧ (upB c = true ∧ wb c = true ∨ upB c = false ∧ (48 ≤ (c.toNat : Int) ∧ (c.toNat : Int) ≤ 57 ∧ wb c = true ∨ (¬ 48 ≤ (c.toNat : Int) ∨ ¬ (c.toNat : Int) ≤ 57) ∧ wb c = ((c.toNat : Int) == 95)))) := by
  by_cases h1 : 97 ≤ (c.toNat : Int) ∧ (c.toNat : Int) ≤ 122
  · exact .inl ⟨h1.1, h1.2, by simp [wb, isLet, h1.1, h1.2]⟩
  · have e1 : isLet c = false := by simpa [isLet] using h1
    refine .inr ⟨by omega, ?_⟩
    cases h2 : upB c with
    | true => exact .inl ⟨rfl, by simp [wb, h2]⟩
    | false =>
      refine .inr ⟨rfl, ?_⟩
      by_cases h3 : 48 ≤ (c.toNat : Int) ∧ (c.toNat : Int) ≤ 57
      · exact .inl ⟨h3.1, h3.2, by simp [wb, isDig, h3.1, h3.2]⟩
      · have e3 : isDig c = false := by simpa [isDig] using h3
        exact .inr ⟨by omega, by simp only [wb, e1, h2, e3, Bool.false_or]⟩

set_option maxRecDepth 100000 in
set_option maxHeartbeats 1000000 in
theorem wordByte_any (c : UInt8) (w : World) :
    Calls Tryz.prog 167 #[.int .u8 c.toNat] w fun e w' => e = .returned (.bool (wb c)) ∧ w = w' := by
  rcases wb_cases c with ⟨h1, h2, h⟩ | ⟨h1, ⟨h2, h⟩ | ⟨h2, ⟨h3, h4, h⟩ | ⟨h3, h⟩⟩⟩
  · rw [h]; clear h
    go_enter Tryz.func167, Tryz.ntmps167
    go_wp2
    go_ret
    exact ⟨rfl, rfl⟩
  · rw [h]; clear h
    have H2 := Lib.hid h2
    clear h2
    rcases h1 with h1 | h1
    all_goals
      go_enter Tryz.func167, Tryz.ntmps167
      go_wp2_with (go_at_call 182; refine (upper_any _ _ H2.out _).mono ?_; rintro e w' ⟨rfl, rfl⟩)
    all_goals
      go_ret
      exact ⟨rfl, rfl⟩
  · rw [h]; clear h
    have H2 := Lib.hid h2
    clear h2
    rcases h1 with h1 | h1
    all_goals
      go_enter Tryz.func167, Tryz.ntmps167
      go_wp2_with (go_at_call 182; refine (upper_any _ _ H2.out _).mono ?_; rintro e w' ⟨rfl, rfl⟩)
    all_goals
      go_ret
      exact ⟨rfl, rfl⟩
  · have H := Lib.hid h
    have H2 := Lib.hid h2
    clear h2 h
    rcases h1 with h1 | h1 <;> rcases h3 with h3 | h3
    all_goals
      go_enter Tryz.func167, Tryz.ntmps167
      go_wp2_with (go_at_call 182; refine (upper_any _ _ H2.out _).mono ?_; rintro e w' ⟨rfl, rfl⟩)
    all_goals
      go_ret
      exact ⟨ret_bool (by have e := H.out; rw [e]; try (rw [decide_eq_false (by omega)]; rfl)), rfl⟩
theorem wordByte_is (c : UInt8) (b : Bool) (h : wb c = b) (w : World) : Calls Tryz.prog 167 #[.int .u8 c.toNat] w fun e w' => e = .returned (.bool b) ∧ w = w' := by
  rw [← h]; exact wordByte_any c w

/-- how many bytes of words a text begins with. -/
def wordN (l : List UInt8) : Nat := (l.takeWhile wb).length
theorem wordN_le (l : List UInt8) : wordN l ≤ l.length := (List.takeWhile_prefix _).length_le
theorem wordN_take (l : List UInt8) : l.take (wordN l) = l.takeWhile wb := by
  obtain ⟨r, hr⟩ := List.takeWhile_prefix (p := wb) (l := l)
  unfold wordN
  conv => lhs; arg 2; rw [← hr]
  rw [List.take_left]
theorem wordN_lt {l : List UInt8} {k : Nat} (hk : k < wordN l) (hl : k < l.length) : wb l[k] = true := by
  have h : l[k] ∈ l.takeWhile wb := by
    rw [← wordN_take]
    exact List.mem_take_iff_getElem.2 ⟨k, by omega, rfl⟩
  exact mem_takeWhile h
theorem wordN_at : ∀ {l : List UInt8} (hk : wordN l < l.length), wb l[wordN l] = false
  | c :: r, hk => by
    cases h : wb c with
    | true =>
      have e : wordN (c :: r) = wordN r + 1 := by simp [wordN, h]
      simp only [e, List.getElem_cons_succ]
      exact wordN_at (by rw [e] at hk; simpa using hk)
    | false =>
      have e : wordN (c :: r) = 0 := by simp [wordN, h]
      simp only [e, List.getElem_cons_zero]
      exact h

set_option maxRecDepth 100000 in
set_option maxHeartbeats 1000000 in
theorem firstWord_any (s : ByteArray) (w : World) (hs : s.size ≤ maxLen) :
    Calls Tryz.prog 153 #[.string s] w fun e w' => e = .returned (.string (bts (s.data.toList.takeWhile wb))) ∧ w = w' := by
  unfold maxLen at hs
  have hle : wordN s.data.toList ≤ s.size := by simpa using wordN_le s.data.toList
  have HE : Hid (s.extract 0 (wordN s.data.toList) = bts (s.data.toList.takeWhile wb)) := by
    show _ = _
    rw [← wordN_take, ← bts_of (s.extract 0 _)]
    congr 1
    simp
  have HT : Hid (∀ k, k < wordN s.data.toList → (h : k < s.size) → wb s[k] = true) := fun k hk h => wordN_lt hk (by simpa using h)
  have HF : Hid ((h : wordN s.data.toList < s.size) → wb s[wordN s.data.toList] = false) := fun h => wordN_at (by simpa using h)
  generalize wordN s.data.toList = n at hle HE HT HF
  go_enter Tryz.func153, Tryz.ntmps153
  go_wp2
  go_loop [3] (fun i => ∃ k : Nat, k ≤ n ∧ i = .int .i64 k) (fun i => s.size - (intOf i).toNat)
  case atStart => exact ⟨0, Nat.zero_le _, rfl⟩
  case round =>
    obtain ⟨k, hk, rfl⟩ := hrel
    by_cases hlt : k < s.size
    · by_cases hkn : k < n
      · have H1 := Lib.hid (HT.out k hkn hlt)
        go_wp2_with (go_at_call 167; refine (wordByte_is _ _ H1.out _).mono ?_; rintro e w' ⟨rfl, rfl⟩)
        go_round
        case rel => exact ⟨k + 1, by omega, by go_num⟩
        case measure => simp [intOf]; omega
      · have hkn' : k = n := by omega
        subst hkn'
        have H1 := Lib.hid (HF.out hlt)
        go_wp2_with (go_at_call 167; refine (wordByte_is _ _ H1.out _).mono ?_; rintro e w' ⟨rfl, rfl⟩)
        go_ret
        exact ⟨by rw [← HE.out]; rfl, rfl⟩
    · have hkn' : k = n := by omega
      subst hkn'
      go_wp2
      go_ret
      exact ⟨by rw [← HE.out]; rfl, rfl⟩
end Go.Proofs.YtikohamfnnlhcaaGreatDoor

namespace Go.Proofs.YtikohamfnnlhcaaGreatDoor
open Go.RowKit Go.Deep

/-- the table of keys, cell for cell. -/
def KeysAt (w : World) : Prop := ∀ (j : Nat) x, keysL[j]? = some x → w.cell? ⟨6, j, none⟩ = some (.string (bts x))
def SignsAt (w : World) : Prop := ∀ (j : Nat) x, signsL[j]? = some x → w.cell? ⟨5, j, none⟩ = some (.string (bts x))

set_option maxRecDepth 100000 in
theorem key_at {k : Nat} (hk : k < 8) (w : World) : (Instr.index 253 (.agg #[.string (bts [114,101,108]), .string (bts [105,110,116]), .string (bts [115,121,109]), .string (bts [110,111,116]), .string (bts [99,111,117,110,116]), .string (bts [115,117,109]), .string (bts [109,105,110]), .string (bts [109,97,120])]) (.int .i64 k)).run Tryz.prog w = .ok (.string (bts (keysL.getD k []))) w := by
  obtain rfl | rfl | rfl | rfl | rfl | rfl | rfl | rfl : k = 0 ∨ k = 1 ∨ k = 2 ∨ k = 3 ∨ k = 4 ∨ k = 5 ∨ k = 6 ∨ k = 7 := by omega
  all_goals kernel_rfl
theorem str_eq {s : ByteArray} {l : List UInt8} (h : s.data.toList = l) : (s.toList == l) = true := by
  rw [Lib.toList_data, h]
  simp
theorem str_ne {s : ByteArray} {l : List UInt8} (h : s.data.toList ≠ l) : (s.toList == l) = false := by
  rw [Lib.toList_data]
  simpa using h
/-- is it a key? -/
def keyB (l : List UInt8) : Bool := keysL.contains l
/-- is it a variable? -/
def varB : List UInt8 → Bool
  | [] => false
  | c :: r => upB c && decide ((((c :: r).length : Nat) : Int) ≤ 32)
theorem key_yes {l : List UInt8} {k : Nat} (hk : k < 8) (h : l = keysL.getD k []) : keyB l = true := by
  unfold keyB
  rw [List.contains_iff_mem, h]
  have hk8 : k < keysL.length := hk
  rw [List.getD_eq_getElem?_getD, List.getElem?_eq_getElem hk8]
  exact List.getElem_mem hk8
theorem key_no {l : List UInt8} (h : ∀ j < 8, l ≠ keysL.getD j []) : keyB l = false := by
  cases hc : keyB l with
  | false => rfl
  | true =>
    unfold keyB at hc
    rw [List.contains_iff_mem] at hc
    obtain ⟨j, hj, e⟩ := List.mem_iff_getElem.1 hc
    exact absurd (by rw [List.getD_eq_getElem?_getD, List.getElem?_eq_getElem hj]; exact e.symm) (h j hj)

set_option maxRecDepth 100000 in
set_option maxHeartbeats 1000000 in
theorem key_any (s : ByteArray) (w : World) (hk : KeysAt w) :
    Calls Tryz.prog 168 #[.string s] w fun e w' => e = .returned (.bool (keyB s.data.toList)) ∧ w = w' := by
  have c0 := hk 0 _ rfl
  have c1 := hk 1 _ rfl
  have c2 := hk 2 _ rfl
  have c3 := hk 3 _ rfl
  have c4 := hk 4 _ rfl
  have c5 := hk 5 _ rfl
  have c6 := hk 6 _ rfl
  have c7 := hk 7 _ rfl
  clear hk
  go_enter Tryz.func168, Tryz.ntmps168
  go_wp2
  clear c0 c1 c2 c3 c4 c5 c6 c7
  go_loop [6] (fun i => ∃ k : Nat, k ≤ 8 ∧ i = .int .i64 k ∧ Hid (∀ j < k, s.data.toList ≠ keysL.getD j [])) (fun i => 8 - (intOf i).toNat)
  case atStart => exact ⟨0, Nat.zero_le _, rfl, fun _ h => absurd h (by omega)⟩
  case round =>
    obtain ⟨k, hk, rfl, HK⟩ := hrel
    by_cases hlt : k < 8
    · have hx := key_at hlt
      by_cases he : s.data.toList = keysL.getD k []
      · have h1 := str_eq he
        have HQ := Lib.hid (key_yes hlt he)
        clear he
        generalize keysL.getD k [] = t at hx h1
        go_wp2
        go_ret
        exact ⟨ret_bool HQ.out.symm, rfl⟩
      · have h1 := str_ne he
        have HQ : Hid (∀ j < k + 1, s.data.toList ≠ keysL.getD j []) := fun j hj => by
          by_cases h : j = k
          · subst h; exact he
          · exact HK.out j (by omega)
        clear he HK
        generalize keysL.getD k [] = t at hx h1
        go_wp2
        go_round
        case rel => exact ⟨k + 1, by omega, by go_num, HQ⟩
        case measure => simp [intOf]; omega
    · have HQ := Lib.hid (key_no fun j hj => HK.out j (by omega))
      go_wp2
      go_ret
      exact ⟨ret_bool HQ.out.symm, rfl⟩

set_option maxRecDepth 100000 in
set_option maxHeartbeats 400000 in
theorem variable_any (s : ByteArray) (w : World) (hs : s.size ≤ maxLen) :
    Calls Tryz.prog 169 #[.string s] w fun e w' => e = .returned (.bool (varB s.data.toList)) ∧ w = w' := by
  unfold maxLen at hs
  by_cases h0 : 0 < s.size
  · have hne := (empty_not (s := s) (by omega)).2
    have hne2 := empty_not (s := s) (by omega)
    have HV : Hid (varB s.data.toList = (upB s[0] && decide ((s.size : Int) ≤ 32))) := by
      show _ = _
      have e : s.data.toList = s[0] :: s.data.toList.tail := by
        have hl : 0 < s.data.toList.length := by simpa using h0
        cases hc : s.data.toList with
        | nil => rw [hc] at hl; simp at hl
        | cons c r =>
          have : s[0] = s.data.toList[0] := rfl
          simp only [hc, List.getElem_cons_zero] at this
          rw [this]; rfl
      have hz : s.data.toList.length = s.size := by simp
      rw [← hz]
      conv => lhs; rw [e]
      simp only [varB]
      congr 1
      rw [← e]
    cases hu : upB s[0] with
    | true =>
      have H1 := Lib.hid hu
      rw [hu] at HV
      clear hu hne2
      go_enter Tryz.func169, Tryz.ntmps169
      go_wp2_with (go_at_call 182; refine (upper_any _ _ H1.out _).mono ?_; rintro e w' ⟨rfl, rfl⟩)
      go_ret
      exact ⟨ret_bool (by rw [HV.out]; simp), rfl⟩
    | false =>
      have H1 := Lib.hid hu
      rw [hu] at HV
      clear hu hne2
      go_enter Tryz.func169, Tryz.ntmps169
      go_wp2_with (go_at_call 182; refine (upper_any _ _ H1.out _).mono ?_; rintro e w' ⟨rfl, rfl⟩)
      go_ret
      exact ⟨ret_bool (by rw [HV.out]; simp), rfl⟩
  · obtain rfl := empty_of (s := s) (by omega)
    go_enter Tryz.func169, Tryz.ntmps169
    go_wp2
    go_ret
    exact ⟨rfl, rfl⟩

set_option maxRecDepth 100000 in
set_option maxHeartbeats 400000 in
theorem number_yes (s : ByteArray) (n : Int) (w : World) (hs : s.size ≤ maxLen) (hs2 : s.size ≤ 281474976710656) (hm : isName s.data.toList = false) (hp : pv s.data.toList = some n) (hT : Tabs w) :
    Calls Tryz.prog 170 #[.string s] w fun e w' => e = .returned (.bool true) ∧ Below w.heap.size w w' := by
  have HP := Lib.hid (Parse_some s w hs hs2 hm n hp hT)
  clear hp hm hT
  go_enter Tryz.func170, Tryz.ntmps170
  go_wp2_with fail
  refine HP.out.mono ?_
  rintro e w1 ⟨rfl, b1⟩
  have B1 := Lib.hid b1
  clear b1
  go_wp2
  go_ret
  exact ⟨rfl, B1.out.alloc B1.out.size _⟩
set_option maxRecDepth 100000 in
set_option maxHeartbeats 400000 in
theorem number_no (s : ByteArray) (w : World) (hs : s.size ≤ maxLen) (hs2 : s.size ≤ 281474976710656) (hm : isName s.data.toList = false) (hp : pv s.data.toList = none) (hT : Tabs w) :
    Calls Tryz.prog 170 #[.string s] w fun e w' => e = .returned (.bool false) ∧ Below w.heap.size w w' := by
  have HP := Lib.hid (Parse_none s w hs hs2 hm hp hT)
  clear hp hm hT
  have k1 : ∀ w, (binOp .eql 41 (eno 2) .nilIface).run Tryz.prog w = .ok (.bool false) w := fun w => by kernel_rfl
  go_enter Tryz.func170, Tryz.ntmps170
  go_wp2_with fail
  refine HP.out.mono ?_
  rintro e w1 ⟨rfl, b1⟩
  have B1 := Lib.hid b1
  clear b1
  go_wp2
  go_ret
  exact ⟨rfl, B1.out.alloc B1.out.size _⟩

/-- a word's kind: 1 key, 2 name, 3 var, 4 number, 0 none. -/
def kindW (l : List UInt8) : Nat := if keyB l = true then 1 else if isName l = true then 2 else if varB l = true then 3 else if (pv l).isSome = true then 4 else 0
set_option maxRecDepth 100000 in
set_option maxHeartbeats 1000000 in
theorem wordKind_any (s : ByteArray) (w : World) (hs : s.size ≤ maxLen) (hs2 : s.size ≤ 281474976710656) (hk : KeysAt w) (hT : Tabs w) :
    Calls Tryz.prog 154 #[.string s] w fun e w' => e = .returned (.int .i64 (kindW s.data.toList)) ∧ Below w.heap.size w w' := by
  have HK := Lib.hid (key_any s w hk)
  have HV := Lib.hid (variable_any s w hs)
  cases h1 : keyB s.data.toList with
  | true =>
    have HQ : Hid (kindW s.data.toList = 1) := by show _ = _; simp [kindW, h1]
    rw [h1] at HK
    clear h1 hk hT HV
    go_enter Tryz.func154, Tryz.ntmps154
    go_wp2_with fail
    refine HK.out.mono ?_
    rintro e w1 ⟨rfl, rfl⟩
    go_wp2
    go_ret
    exact ⟨by rw [HQ.out]; rfl, Below.refl _ _⟩
  | false =>
    rw [h1] at HK
    cases h2 : isName s.data.toList with
    | true =>
      have HQ : Hid (kindW s.data.toList = 2) := by show _ = _; simp [kindW, h1, h2]
      have HN := Lib.hid (Name_is s true h2 hs w)
      clear h1 h2 hk hT HV
      go_enter Tryz.func154, Tryz.ntmps154
      go_wp2_with fail
      refine HK.out.mono ?_
      rintro e w1 ⟨rfl, rfl⟩
      go_wp2_with fail
      refine HN.out.mono ?_
      rintro e w1 ⟨rfl, rfl⟩
      go_wp2
      go_ret
      exact ⟨by rw [HQ.out]; rfl, Below.refl _ _⟩
    | false =>
      have HN := Lib.hid (Name_is s false h2 hs w)
      cases h3 : varB s.data.toList with
      | true =>
        have HQ : Hid (kindW s.data.toList = 3) := by show _ = _; simp [kindW, h1, h2, h3]
        rw [h3] at HV
        clear h1 h2 h3 hk hT
        go_enter Tryz.func154, Tryz.ntmps154
        go_wp2_with fail
        refine HK.out.mono ?_
        rintro e w1 ⟨rfl, rfl⟩
        go_wp2_with fail
        refine HN.out.mono ?_
        rintro e w1 ⟨rfl, rfl⟩
        go_wp2_with fail
        refine HV.out.mono ?_
        rintro e w1 ⟨rfl, rfl⟩
        go_wp2
        go_ret
        exact ⟨by rw [HQ.out]; rfl, Below.refl _ _⟩
      | false =>
        rw [h3] at HV
        cases h4 : pv s.data.toList with
        | some n =>
          have HQ : Hid (kindW s.data.toList = 4) := by show _ = _; simp [kindW, h1, h2, h3, h4]
          have HP := Lib.hid (number_yes s n w hs hs2 h2 h4 hT)
          clear h1 h2 h3 h4 hk hT
          go_enter Tryz.func154, Tryz.ntmps154
          go_wp2_with fail
          refine HK.out.mono ?_
          rintro e w1 ⟨rfl, rfl⟩
          go_wp2_with fail
          refine HN.out.mono ?_
          rintro e w1 ⟨rfl, rfl⟩
          go_wp2_with fail
          refine HV.out.mono ?_
          rintro e w1 ⟨rfl, rfl⟩
          go_wp2_with fail
          refine HP.out.mono ?_
          rintro e w2 ⟨rfl, b2⟩
          have B2 := Lib.hid b2
          clear b2
          go_wp2
          go_ret
          exact ⟨by rw [HQ.out]; rfl, B2.out⟩
        | none =>
          have HQ : Hid (kindW s.data.toList = 0) := by show _ = _; simp [kindW, h1, h2, h3, h4]
          have HP := Lib.hid (number_no s w hs hs2 h2 h4 hT)
          clear h1 h2 h3 h4 hk hT
          go_enter Tryz.func154, Tryz.ntmps154
          go_wp2_with fail
          refine HK.out.mono ?_
          rintro e w1 ⟨rfl, rfl⟩
          go_wp2_with fail
          refine HN.out.mono ?_
          rintro e w1 ⟨rfl, rfl⟩
          go_wp2_with fail
          refine HV.out.mono ?_
          rintro e w1 ⟨rfl, rfl⟩
          go_wp2_with fail
          refine HP.out.mono ?_
          rintro e w2 ⟨rfl, b2⟩
          have B2 := Lib.hid b2
          clear b2
          go_wp2
          go_ret
          exact ⟨by rw [HQ.out]; rfl, B2.out⟩
end Go.Proofs.YtikohamfnnlhcaaGreatDoor

namespace Go.Proofs.YtikohamfnnlhcaaGreatDoor
open Go.RowKit Go.Deep

theorem drop_text (s : ByteArray) (k : Nat) : (s.extract k s.size).data.toList = s.data.toList.drop k := by
  simp [ByteArray.data_extract, List.take_of_length_le]
theorem drop_at (s : ByteArray) {k : Nat} (h : k < s.size) : s.data.toList.drop k = s[k] :: s.data.toList.drop (k + 1) := by
  have hl : k < s.data.toList.length := by simpa using h
  rw [List.drop_eq_getElem_cons hl]
  rfl

set_option maxRecDepth 100000 in
theorem sign_at {k : Nat} (hk : k < 14) (w : World) : (Instr.index 241 (.agg #[.string (bts [58,45]), .string (bts [33,61]), .string (bts [60,61]), .string (bts [62,61]), .string (bts [40]), .string (bts [41]), .string (bts [44]), .string (bts [46]), .string (bts [61]), .string (bts [60]), .string (bts [62]), .string (bts [43]), .string (bts [45]), .string (bts [42])]) (.int .i64 k)).run Tryz.prog w = .ok (.string (bts (signsL.getD k []))) w := by
  obtain rfl | rfl | rfl | rfl | rfl | rfl | rfl | rfl | rfl | rfl | rfl | rfl | rfl | rfl : k = 0 ∨ k = 1 ∨ k = 2 ∨ k = 3 ∨ k = 4 ∨ k = 5 ∨ k = 6 ∨ k = 7 ∨ k = 8 ∨ k = 9 ∨ k = 10 ∨ k = 11 ∨ k = 12 ∨ k = 13 := by omega
  all_goals kernel_rfl
theorem sign_yes {l : List UInt8} {k : Nat} (hk : k < 14) (h : Lib.hasPrefix l (signsL.getD k []) = true) (hn : ∀ j < k, Lib.hasPrefix l (signsL.getD j []) = false) : signOf l = some (signsL.getD k []) := by
  have hk8 : k < signsL.length := hk
  have hg : ∀ j (hj : j < signsL.length), signsL.getD j [] = signsL[j] := fun j hj => by rw [List.getD_eq_getElem?_getD, List.getElem?_eq_getElem hj]; rfl
  unfold signOf
  rw [List.find?_eq_some_iff_getElem]
  refine ⟨h, k, hk8, (hg k hk8).symm, fun j hj => ?_⟩
  have := hn j hj
  rw [hg j (by omega)] at this
  simpa [Lib.hasPrefix] using this
theorem sign_no {l : List UInt8} (hn : ∀ j < 14, Lib.hasPrefix l (signsL.getD j []) = false) : signOf l = none := by
  have hg : ∀ j (hj : j < signsL.length), signsL.getD j [] = signsL[j] := fun j hj => by rw [List.getD_eq_getElem?_getD, List.getElem?_eq_getElem hj]; rfl
  unfold signOf
  rw [List.find?_eq_none]
  intro p hp
  obtain ⟨j, hj, rfl⟩ := List.mem_iff_getElem.1 hp
  have := hn j hj
  rw [hg j hj] at this
  simp only [Lib.hasPrefix] at this
  simp [this]
/-- a sign and its kind. -/
def signV : Option (List UInt8) → Value
  | some p => .tuple #[.string (bts p), .int .i64 5]
  | none => .tuple #[.string noText, .int .i64 0]
theorem pre_is (s : ByteArray) (t : List UInt8) (b : Bool) (h : Lib.hasPrefix s.data.toList t = b) (w : World) : Calls Tryz.prog 171 #[.string s, .string (bts t)] w fun e w' => e = .returned (.bool b) ∧ w = w' :=
  (Tryz.strings_HasPrefix s (bts t) w).mono fun e w' ⟨h1, h2⟩ => ⟨by rw [h1, ← h], h2.symm⟩

set_option maxRecDepth 100000 in
set_option maxHeartbeats 1000000 in
theorem firstSign_any (s : ByteArray) (w : World) (hk : SignsAt w) :
    Calls Tryz.prog 155 #[.string s] w fun e w' => e = .returned (signV (signOf s.data.toList)) ∧ w = w' := by
  have c0 := hk 0 _ rfl
  have c1 := hk 1 _ rfl
  have c2 := hk 2 _ rfl
  have c3 := hk 3 _ rfl
  have c4 := hk 4 _ rfl
  have c5 := hk 5 _ rfl
  have c6 := hk 6 _ rfl
  have c7 := hk 7 _ rfl
  have c8 := hk 8 _ rfl
  have c9 := hk 9 _ rfl
  have c10 := hk 10 _ rfl
  have c11 := hk 11 _ rfl
  have c12 := hk 12 _ rfl
  have c13 := hk 13 _ rfl
  clear hk
  go_enter Tryz.func155, Tryz.ntmps155
  go_wp2
  clear c0 c1 c2 c3 c4 c5 c6 c7 c8 c9 c10 c11 c12 c13
  go_loop [7] (fun i => ∃ k : Nat, k ≤ 14 ∧ i = .int .i64 k ∧ Hid (∀ j < k, Lib.hasPrefix s.data.toList (signsL.getD j []) = false)) (fun i => 14 - (intOf i).toNat)
  case atStart => exact ⟨0, Nat.zero_le _, rfl, fun _ h => absurd h (by omega)⟩
  case round =>
    obtain ⟨k, hk, rfl, HK⟩ := hrel
    by_cases hlt : k < 14
    · have hx := sign_at hlt
      cases he : Lib.hasPrefix s.data.toList (signsL.getD k []) with
      | true =>
        have HP := Lib.hid (pre_is s _ true he w)
        have HQ := Lib.hid (sign_yes hlt he HK.out)
        clear he HK
        generalize signsL.getD k [] = t at hx HP HQ
        go_wp2_with fail
        refine HP.out.mono ?_
        rintro e w' ⟨rfl, rfl⟩
        go_wp2
        go_ret2
        exact ⟨by rw [HQ.out]; rfl, rfl⟩
      | false =>
        have HP := Lib.hid (pre_is s _ false he w)
        have HQ : Hid (∀ j < k + 1, Lib.hasPrefix s.data.toList (signsL.getD j []) = false) := fun j hj => by
          by_cases h : j = k
          · subst h; exact he
          · exact HK.out j (by omega)
        clear he HK
        generalize signsL.getD k [] = t at hx HP
        go_wp2_with fail
        refine HP.out.mono ?_
        rintro e w' ⟨rfl, rfl⟩
        go_wp2
        go_round
        case rel => exact ⟨k + 1, by omega, by go_num, HQ⟩
        case measure => simp [intOf]; omega
    · have HQ := Lib.hid (sign_no fun j hj => HK.out j (by omega))
      go_wp2
      go_ret2
      exact ⟨by rw [HQ.out]; rfl, rfl⟩

theorem index_line : ∀ l : List UInt8, Lib.indexByte l 10 = if lineN l < l.length then (lineN l : Int) else -1
  | [] => by simp [Lib.indexByte, lineN]
  | c :: r => by
    have ih := index_line r
    have hle := line_le r
    by_cases h : lfB c = true
    · have e : lineN (c :: r) = 0 := by simp [lineN, h]
      have hc : (c == 10) = true := by
        simp only [lfB, beq_iff_eq] at h
        simp only [beq_iff_eq]
        apply UInt8.toNat_inj.1
        simpa using (by omega : c.toNat = 10)
      simp [Lib.indexByte, e, hc]
    · have e : lineN (c :: r) = lineN r + 1 := by simp [lineN, h]
      have hc : (c == 10) = false := by
        simp only [beq_eq_false_iff_ne]
        rintro rfl
        exact h (by decide)
      simp only [Lib.indexByte, e, hc, Bool.false_eq_true, if_false, ih, List.length_cons]
      by_cases hl : lineN r < r.length
      · have : ((lineN r : Int) == -1) = false := by simp only [beq_eq_false_iff_ne]; omega
        simp [hl, this]
      · simp [hl]

theorem ret_i64 {a b : Int} (h : a = b) : Ending.returned (.int .i64 a) = Ending.returned (.int .i64 b) := by rw [h]

set_option maxRecDepth 100000 in
set_option maxHeartbeats 400000 in
theorem lineEnd_any (s : ByteArray) (k : Nat) (w : World) (hs : s.size ≤ maxLen) (hk : k ≤ s.size) :
    Calls Tryz.prog 152 #[.string s, .int .i64 k] w fun e w' => e = .returned (.int .i64 ((k + lineN (s.data.toList.drop k) : Nat) : Int)) ∧ w = w' := by
  unfold maxLen at hs
  have HP := Lib.hid (Tryz.strings_IndexByte (s.extract k s.size) 10 w)
  rw [drop_text, show ((10 : Int).toNat.toUInt8) = 10 from rfl, index_line] at HP
  have hle := line_le (s.data.toList.drop k)
  have hdl : (s.data.toList.drop k).length = s.size - k := by simp
  rw [hdl] at hle HP
  generalize lineN (s.data.toList.drop k) = n at HP hle ⊢
  clear hdl
  by_cases hn : n < s.size - k
  · rw [if_pos hn] at HP
    go_enter Tryz.func152, Tryz.ntmps152
    go_wp2_with fail
    refine HP.out.mono ?_
    rintro e w' ⟨rfl, hw⟩
    subst hw
    go_wp2
    go_ret
    exact ⟨ret_i64 (by omega), rfl⟩
  · rw [if_neg hn] at HP
    have he : n = s.size - k := by omega
    go_enter Tryz.func152, Tryz.ntmps152
    go_wp2_with fail
    refine HP.out.mono ?_
    rintro e w' ⟨rfl, hw⟩
    subst hw
    go_wp2
    go_ret
    exact ⟨ret_i64 (by omega), rfl⟩

/-- the six ways of a byte that may be skipped. -/
theorem bl_cases (c : UInt8) : (((c.toNat : Int) == 9) = true ∧ blB c = true) ∨ (((c.toNat : Int) == 9) = false ∧ ((c.toNat : Int) == 10) = true ∧ blB c = true) ∨ (((c.toNat : Int) == 9) = false ∧ ((c.toNat : Int) == 10) = false ∧ ((c.toNat : Int) == 13) = true ∧ blB c = true) ∨
    (((c.toNat : Int) == 9) = false ∧ ((c.toNat : Int) == 10) = false ∧ ((c.toNat : Int) == 13) = false ∧ ((c.toNat : Int) == 32) = true ∧ blB c = true) ∨ (((c.toNat : Int) == 9) = false ∧ ((c.toNat : Int) == 10) = false ∧ ((c.toNat : Int) == 13) = false ∧ ((c.toNat : Int) == 32) = false ∧ ((c.toNat : Int) == 37) = true ∧ blB c = false ∧ perB c = true) ∨
    (((c.toNat : Int) == 9) = false ∧ ((c.toNat : Int) == 10) = false ∧ ((c.toNat : Int) == 13) = false ∧ ((c.toNat : Int) == 32) = false ∧ ((c.toNat : Int) == 37) = false ∧ blB c = false ∧ perB c = false) := by
  unfold blB perB
  cases ((c.toNat : Int) == 9) <;> cases ((c.toNat : Int) == 10) <;> cases ((c.toNat : Int) == 13) <;> cases ((c.toNat : Int) == 32) <;> cases ((c.toNat : Int) == 37) <;> simp

set_option maxRecDepth 100000 in
set_option maxHeartbeats 1000000 in
theorem skip_any (s : ByteArray) (k0 : Nat) (w : World) (hs : s.size ≤ maxLen) (hk0 : k0 ≤ s.size) :
    Calls Tryz.prog 135 #[.string s, .int .i64 k0] w fun e w' => e = .returned (.int .i64 ((k0 + skipN false (s.data.toList.drop k0) : Nat) : Int)) ∧ w = w' := by
  have hs' := hs
  unfold maxLen at hs
  obtain ⟨n, hn⟩ : ∃ n, k0 + skipN false (s.data.toList.drop k0) = n := ⟨_, rfl⟩
  have H0 : Hid (k0 + skipN false (s.data.toList.drop k0) = n) := hn
  rw [hn]
  clear hn
  go_enter Tryz.func135, Tryz.ntmps135
  go_wp2
  go_loop [1] (fun i => ∃ k : Nat, k ≤ s.size ∧ i = .int .i64 k ∧ Hid (k + skipN false (s.data.toList.drop k) = n)) (fun i => s.size - (intOf i).toNat)
  case atStart => exact ⟨k0, hk0, rfl, H0⟩
  case round =>
    obtain ⟨k, hk, rfl, HK⟩ := hrel
    by_cases hlt : k < s.size
    · have hd := drop_at s hlt
      have HN : Hid (blB s[k] = true → k + 1 + skipN false (s.data.toList.drop (k + 1)) = n) := fun h => by
        have := HK.out
        rw [hd, skip_bl h] at this
        omega
      have HP : Hid (blB s[k] = false → perB s[k] = true → k + lineN (s.data.toList.drop k) + skipN false (s.data.toList.drop (k + lineN (s.data.toList.drop k))) = n ∧ 0 < lineN (s.data.toList.drop k) ∧ lineN (s.data.toList.drop k) ≤ s.size - k) := fun h h' => by
        have := HK.out
        have e := skip_per (r := s.data.toList.drop (k + 1)) h h'
        have hlf : lfB s[k] = false := by
          cases hl : lfB s[k] with
          | false => rfl
          | true => rw [lf_bl hl] at h; cases h
        rw [← hd] at e
        rw [e, List.drop_drop] at this
        refine ⟨by omega, ?_, ?_⟩
        · rw [hd]; simp [lineN, hlf]
        · have := line_le (s.data.toList.drop k)
          simpa using this
      have HE : Hid (blB s[k] = false → perB s[k] = false → k = n) := fun h h' => by
        have := HK.out
        rw [hd, skip_no h h'] at this
        omega
      have HL := Lib.hid (lineEnd_any s k w hs' hk)
      clear hd HK
      rcases bl_cases s[k] with ⟨a1, b⟩ | ⟨a1, a2, b⟩ | ⟨a1, a2, a3, b⟩ | ⟨a1, a2, a3, a4, b⟩ | ⟨a1, a2, a3, a4, a5, b, b'⟩ | ⟨a1, a2, a3, a4, a5, b, b'⟩
      · have HQ := Lib.hid (HN.out b)
        clear b HN HP HE HL
        go_wp2
        go_round
        case rel => exact ⟨k + 1, by omega, by go_num, HQ⟩
        case measure => simp [intOf]; omega
      · have HQ := Lib.hid (HN.out b)
        clear b HN HP HE HL
        go_wp2
        go_round
        case rel => exact ⟨k + 1, by omega, by go_num, HQ⟩
        case measure => simp [intOf]; omega
      · have HQ := Lib.hid (HN.out b)
        clear b HN HP HE HL
        go_wp2
        go_round
        case rel => exact ⟨k + 1, by omega, by go_num, HQ⟩
        case measure => simp [intOf]; omega
      · have HQ := Lib.hid (HN.out b)
        clear b HN HP HE HL
        go_wp2
        go_round
        case rel => exact ⟨k + 1, by omega, by go_num, HQ⟩
        case measure => simp [intOf]; omega
      · obtain ⟨q1, q2, q3⟩ := HP.out b b'
        have HQ := Lib.hid q1
        clear b b' HN HP HE q1
        generalize lineN (s.data.toList.drop k) = m at HL HQ q2 q3
        go_wp2_with fail
        refine HL.out.mono ?_
        rintro e w' ⟨rfl, rfl⟩
        go_wp2
        go_round
        case rel => exact ⟨k + m, by omega, rfl, HQ⟩
        case measure => simp [intOf]; omega
      · have HQ := Lib.hid (HE.out b b')
        clear b b' HN HP HE HL
        go_wp2
        go_ret
        exact ⟨ret_i64 (by have := HQ.out; omega), rfl⟩
    · have HQ : Hid (k = n) := by
        show _ = _
        have := HK.out
        rw [List.drop_eq_nil_of_le (by simp; omega)] at this
        simpa [skipN] using this
      clear HK
      go_wp2
      go_ret
      exact ⟨ret_i64 (by have := HQ.out; omega), rfl⟩
end Go.Proofs.YtikohamfnnlhcaaGreatDoor

namespace Go.Proofs.YtikohamfnnlhcaaGreatDoor
open Go.RowKit Go.Deep

/-- block g is just these cells. -/
def Own (w : World) (g : Nat) (e : TypeId) (xs : List Value) : Prop := w.heap[g]? = some (.cells xs.toArray e (0, 0))
section
variable {w w' : World} {g : Nat} {e : TypeId} {xs : List Value}
theorem Own.lt (h : Own w g e xs) : g < w.heap.size := (Array.getElem?_eq_some_iff.1 h).1
theorem Own.cell (h : Own w g e xs) (i : Nat) : w.cell? ⟨g, i, none⟩ = xs[i]? := by
  unfold Own at h
  simp [World.cell?, h]
theorem Own.frozen (h : Own w g e xs) (i : Nat) : w.frozen? ⟨g, i, none⟩ = false := by
  unfold Own at h
  simp [World.frozen?, h]
theorem Own.set (h : Own w g e xs) (i : Nat) (u : Value) : Own (w.setCell ⟨g, i, none⟩ u) g e (xs.set i u) := by
  unfold Own at h ⊢
  simp [World.setCell, Array.getElem?_modify, h]
theorem Own.keep (h : Own w g e xs) {B : Nat} (hb : Below B w w') (hg : g < B) : Own w' g e xs := (hb.block g hg).trans h
theorem Own.below (h : Own w g e xs) (hb : Below w.heap.size w w') : Own w' g e xs := h.keep hb h.lt
theorem Own.alloc (h : Own w g e xs) (o : Obj) : Own (w.alloc o) g e xs := h.below ((Below.refl _ _).alloc (Nat.le_refl _) _)
theorem Own.of_row {base n size : Nat} {cap : Nat} (h : w.ownsRow base e size (.slice (some ⟨g, 0, none⟩) n cap) n xs) (hc : cap = n) : Own w g e xs := by
  obtain ⟨h1, ⟨h2, _⟩ | ⟨g', cap', cur, h2, _, h3, _, _, h4, h5⟩⟩ := h
  · cases h2
  · injection h2 with a1 _ a3
    injection a1 with a1
    injection a1 with a1
    subst a1 a3 hc
    rw [List.take_of_length_le (by simp [h4])] at h5
    unfold Own
    rw [h3, ← h5]
end

/-- all blocks but S lie as they lay. -/
structure Kept (S : List Nat) (w w' : World) : Prop where
  os : w'.os = w.os
  tape : w'.tape = w.tape
  output : w'.output = w.output
  size : w.heap.size ≤ w'.heap.size
  block : ∀ k, k < w.heap.size → k ∉ S → w'.heap[k]? = w.heap[k]?
/-- the blocks S' are among S, or new. -/
def Sub (S' S : List Nat) (n : Nat) : Prop := ∀ k ∈ S', k ∈ S ∨ n ≤ k
section
variable {S S' S'' : List Nat} {a b c w w' : World}
theorem Sub.refl (S : List Nat) (n : Nat) : Sub S S n := fun _ h => .inl h
theorem Sub.trans {n m : Nat} (h : Sub S' S n) (h' : Sub S'' S' m) (hn : n ≤ m) : Sub S'' S n := fun k hk => by
  rcases h' k hk with h1 | h1
  · exact h k h1
  · exact .inr (Nat.le_trans hn h1)
theorem Kept.refl (S : List Nat) (w : World) : Kept S w w := ⟨rfl, rfl, rfl, Nat.le_refl _, fun _ _ _ => rfl⟩
theorem Kept.of (S : List Nat) (h : Below w.heap.size w w') : Kept S w w' := ⟨h.os, h.tape, h.output, h.size, fun k hk _ => h.block k hk⟩
theorem Kept.trans (h : Kept S a b) (h' : Kept S' b c) (hs : Sub S' S a.heap.size) : Kept S a c :=
  ⟨h'.os.trans h.os, h'.tape.trans h.tape, h'.output.trans h.output, Nat.le_trans h.size h'.size, fun k hk hn =>
    (h'.block k (Nat.lt_of_lt_of_le hk h.size) (fun hk' => (hs k hk').elim hn (fun h1 => absurd h1 (by omega)))).trans (h.block k hk hn)⟩
theorem Kept.below (h : Kept S w w') {B : Nat} (hB : B ≤ w.heap.size) (hs : ∀ k ∈ S, B ≤ k) : Below B w w' :=
  ⟨h.os, h.tape, h.output, h.size, fun k hk => h.block k (by omega) (fun hk' => by have := hs k hk'; omega)⟩
theorem Kept.more (h : Kept S w w') (hs : ∀ k ∈ S, k ∈ S') : Kept S' w w' := ⟨h.os, h.tape, h.output, h.size, fun k hk hn => h.block k hk (fun h1 => hn (hs k h1))⟩
theorem Kept.cell (h : Kept S w w') {p : Addr} (hp : p.block < w.heap.size) (hn : p.block ∉ S) : w'.cell? p = w.cell? p := World.cell?_of_block (w := w) (h.block p.block hp hn)
theorem Kept.own (h : Kept S w w') {g : Nat} {e : TypeId} {xs : List Value} (ho : Own w g e xs) (hn : g ∉ S) : Own w' g e xs := (h.block g ho.lt hn).trans ho
theorem Kept.then (h : Kept S a w) (h' : Below w.heap.size w w') : Kept S a w' := h.trans (Kept.of [] h') (fun _ hk => by cases hk)
theorem Kept.alloc (h : Kept S a w) (o : Obj) : Kept S a (w.alloc o) := h.then ((Below.refl _ _).alloc (Nat.le_refl _) _)
theorem Kept.drew (h : Kept S a w) : Kept S a w.drew := h.then (Below.refl _ _).drew
theorem Kept.setCell (h : Kept S a w) {p : Addr} (hp : p.block ∈ S ∨ a.heap.size ≤ p.block) (u : Value) : Kept S a (w.setCell p u) :=
  h.trans (S' := [p.block]) ⟨rfl, rfl, rfl, by simp [World.setCell], fun k hk hn => Below.heap_setCell _ _ _ _ (by simpa using hn)⟩ (fun k hk => by simp only [List.mem_singleton] at hk; subst hk; exact hp)

end
theorem Kept.grown {S : List Nat} {w w' : World} {row : Option Nat} (h : w.grownBy w' row) (hr : ∀ k, row = some k → k ∈ S) : Kept S w w' :=
  ⟨h.os, h.tape, h.output, h.size, fun k hk hn => h.block k hk (fun e => hn (hr k e.symm))⟩
/-- but for what is no cells from block B on, the world is as it was. -/
structure Calm (B : Nat) (w w' : World) : Prop where
  os : w'.os = w.os
  tape : w'.tape = w.tape
  output : w'.output = w.output
  size : w.heap.size ≤ w'.heap.size
  block : ∀ (k : Nat) (o : Obj), w.heap[k]? = some o → (k < B ∨ o.isCells = true) → w'.heap[k]? = some o
section
variable {B : Nat} {w w' : World}
theorem Calm.of_below (B : Nat) (h : Below w.heap.size w w') : Calm B w w' := ⟨h.os, h.tape, h.output, h.size, fun k _ hk _ => (h.block k (Array.getElem?_eq_some_iff.1 hk).1).trans hk⟩
theorem Calm.put {l : Nat} {o : Obj} (o' : Obj) (hl : w.heap[l]? = some o) (ho : o.isCells = false) (hB : B ≤ l) : Calm B w (w.putObj l o') :=
  ⟨rfl, rfl, rfl, by simp, fun k q hk hq => by
    have hne : k ≠ l := by
      rintro rfl
      rw [hl] at hk
      cases hk
      rcases hq with h | h
      · omega
      · rw [ho] at h; cases h
    exact (World.putObj_heap_other hne).trans hk⟩
theorem Calm.alloc (B : Nat) (w : World) (o : Obj) : Calm B w (w.alloc o) := Calm.of_below B ((Below.refl _ _).alloc (Nat.le_refl _) _)
theorem Calm.cell (h : Calm B w w') {p : Addr} {v : Value} (hc : w.cell? p = some v) : w'.cell? p = some v := by
  obtain ⟨o, ho, hcl⟩ := cells_of_cell hc
  exact (World.cell?_of_block (w := w) ((h.block _ _ ho (.inr hcl)).trans ho.symm)).trans hc
theorem Calm.own (h : Calm B w w') {g : Nat} {e : TypeId} {xs : List Value} (ho : Own w g e xs) : Own w' g e xs := h.block _ _ ho (.inr rfl)
theorem Kept.calm {S : List Nat} {a : World} (h : Kept S a w) (hk : Calm B w w') (hB : a.heap.size ≤ B) : Kept S a w' :=
  ⟨hk.os.trans h.os, hk.tape.trans h.tape, hk.output.trans h.output, Nat.le_trans h.size hk.size, fun k hlt hn => by
    have h1 := h.block k hlt hn
    have h2 : a.heap[k]? = some a.heap[k] := Array.getElem?_eq_getElem hlt
    rw [h2] at h1 ⊢
    exact hk.block k _ h1 (.inl (by omega))⟩
theorem Below.calm {n : Nat} {a : World} (h : Below n a w) (hk : Calm B w w') (hn : n ≤ a.heap.size) (hB : a.heap.size ≤ B) : Below n a w' :=
  ⟨hk.os.trans h.os, hk.tape.trans h.tape, hk.output.trans h.output, Nat.le_trans h.size hk.size, fun k hlt => by
    have h1 := h.block k hlt
    have h2 : a.heap[k]? = some a.heap[k] := Array.getElem?_eq_getElem (by omega)
    rw [h2] at h1 ⊢
    exact hk.block k _ h1 (.inl (by omega))⟩
/-- what a call that turns cells alone keeps. -/
theorem Kept.keeps {S : List Nat} (h : Kept S w w') (hc : ∀ k ∈ S, ∀ o, w.heap[k]? = some o → o.isCells = true) (B : Nat) : KeepsFrom B w w' :=
  ⟨h.size, fun k o _ hk ho => (h.block k (Array.getElem?_eq_some_iff.1 hk).1 (fun hs => by rw [hc k hs o hk] at ho; cases ho)).trans hk⟩
end

section
variable {F : Fence} {n : Nat} {P : Program}
theorem range_law {α : Type} {g : Operand} {ps : Array Tmp} {assign body : Code} {Q : Exit → Act → World → Prop} {a : Act} {w : World}
    (hro : F.round = none) (h1 : 1 ≤ n) {gf : Nat} {lb : Array Value} (hg : a.eval g = .func (.func gf) #[] lb) (hFg : F.fn gf) (eg : ∀ args w, (callFunc gf args).run P w = .ok (.enter gf args) w)
    {encs : α → Array Value} {Kp : World → World → Prop} {Px : List α → α → World → Prop} {S Sp : List α → Prop}
    (hseq : ∀ (l : Nat) (J Jx : List α → World → Prop) (W : World), Below w.heap.size w W → (∀ s X Y, J s X → Below X.heap.size X Y → J s Y) → (∀ s X Y, Jx s X → Below X.heap.size X Y → Jx s Y) →
      (∀ pre x W1, J pre W1 → Px pre x W1 → YieldAt F (n - 1 - 1) P l (encs x) W1 fun e W' => (e = .returned (.bool true) ∧ J (pre ++ [x]) W' ∧ Kp W1 W') ∨ (e = .returned (.bool false) ∧ Jx (pre ++ [x]) W')) →
      J [] W → CallsIn F (n - 1) P gf (#[.func (.yield l) #[] #[]] ++ lb) W fun e W' => (∃ v, e = .returned v) ∧ ((∃ xs, S xs ∧ J xs W') ∨ (∃ pre, Sp pre ∧ Jx pre W')))
    (hKt : ∀ {X Y Z : World}, Kp X Y → Kp Y Z → Kp X Z) (hKc : ∀ X Y, w.heap.size ≤ X.heap.size → Calm w.heap.size X Y → Kp X Y) (hps : ∀ x, (encs x).size = ps.size)
    (I : List α → World → Prop) (Ix : Code → List α → World → Prop) (hI : ∀ s X Y, I s X → Calm w.heap.size X Y → I s Y) (hIx : ∀ c s X Y, Ix c s X → Calm w.heap.size X Y → Ix c s Y)
    (hPx : ∀ pre x X Y, Px pre x X → Calm w.heap.size X Y → Px pre x Y) (h0 : I [] w) (a₁ : α → Act)
    (hassign : ∀ (l : Nat) (x : α) (W : World) (K : Act → World → Prop), K (a₁ x) W →
      assign.wpIn (F.inRound l) (n - 1 - 1) P (Exit.then K (fun _ _ _ => False)) { tmps := (ps.zip (encs x)).foldl (fun t (p, v) => t.setIfInBounds p v) a.tmps, defers := [] } W)
    (hbody : ∀ (l : Nat) (pre : List α) (x : α) (W : World), I pre W → Px pre x W → body.wpIn (F.inRound l) (n - 1 - 1) P (ownPostG w.heap.size Kp I Ix (pre ++ [x]) W) (a₁ x) W)
    (hdone : ∀ (D : Nat) (xs : List α) (W : World), w.heap.size ≤ D → S xs → I xs W → W.heap[D]? = some (.deferred (some [])) → Q .normal { a with defers := { target := .collected D, args := #[] } :: a.defers } W)
    (hstop : ∀ (D : Nat) (c : Code) (pre : List α) (W : World), w.heap.size ≤ D → Sp pre → Ix c pre W → W.heap[D]? = some (.deferred (some [])) → c.wpIn F n P Q { a with defers := { target := .collected D, args := #[] } :: a.defers } W) :
    (Code.rangeFunc g ps assign body).wpIn F n P Q a w := by
  refine wpIn_rangeFunc ?_
  intro fn hfn
  rw [hro]
  obtain ⟨rec, hrec⟩ : ∃ rec : LoopState → Option Code → Loop, rec = fun st pe => { state := st, pending := pe, fn, tmps := a.tmps, params := ps, assign, body, defers := w.heap.size } := ⟨_, rfl⟩
  obtain ⟨W1, hW1⟩ : ∃ W1, (w.alloc (.deferred (some []))).alloc (.loop (rec .ready none)) = W1 := ⟨_, rfl⟩
  have hL1 : W1.heap[w.heap.size + 1]? = some (.loop (rec .ready none)) := by
    rw [← hW1]; have := World.alloc_heap_new (w.alloc (.deferred (some []))) (.loop (rec .ready none)); rwa [World.size_alloc] at this
  have hK1 : W1.heap[w.heap.size]? = some (.deferred (some [])) := by
    rw [← hW1]; exact (Below.heap_alloc _ _ _ (by simp)).trans (World.alloc_heap_new w _)
  have hI1 : I [] W1 := by rw [← hW1]; exact hI _ _ _ (hI _ _ _ h0 (Calm.alloc _ _ _)) (Calm.alloc _ _ _)
  have hb1 : Below w.heap.size w W1 := by
    rw [← hW1]; exact ((Below.refl _ w).alloc (Nat.le_refl _) _).alloc (by simp) _
  have hold : ∀ {X Y : World} {k : Nat} {o : Obj}, X.heap[k]? = some o → Below X.heap.size X Y → Y.heap[k]? = some o := fun hk hb => (hb.block _ (Array.getElem?_eq_some_iff.1 hk).1).trans hk
  refine ⟨w.heap.size + 1, [{ target := .collected w.heap.size, args := #[] }], W1, { target := .fn (.func gf) lb, args := #[.func (.yield (w.heap.size + 1)) #[] #[]] }, W1, gf,
    #[.func (.yield (w.heap.size + 1)) #[] #[]] ++ lb, W1, ?_, ?_, ?_, ?_, fun _ => h1, ?_⟩
  · rw [← hW1, hrec]; exact run_enterLoop_outer _ _ _ _ _
  · simp only [resolve, hg]
    simp [go_sem]
  · intro f' hf'; simp [Target.leads] at hf'; subst hf'; exact hFg
  · simp [invoke, go_sem, eg]
  · refine (hseq (w.heap.size + 1)
      (fun pre W => I pre W ∧ W.heap[w.heap.size + 1]? = some (.loop (rec .ready none)) ∧ W.heap[w.heap.size]? = some (.deferred (some [])))
      (fun pre W => ∃ c, Ix c pre W ∧ W.heap[w.heap.size + 1]? = some (.loop (rec .done (some c))) ∧ W.heap[w.heap.size]? = some (.deferred (some [])))
      W1 hb1
      (fun s X Y hs hb => ⟨hI s X Y hs.1 (Calm.of_below _ hb), hold hs.2.1 hb, hold hs.2.2 hb⟩)
      (fun s X Y hs hb => by
        obtain ⟨c, hc, hl, hk⟩ := hs
        exact ⟨c, hIx c s X Y hc (Calm.of_below _ hb), hold hl hb, hold hk hb⟩)
      ?_ ⟨hI1, hL1, hK1⟩).mono ?_
    · rintro pre x W ⟨hi, hl, hk⟩ hpx
      have hlt : w.heap.size + 1 < W.heap.size := (Array.getElem?_eq_some_iff.1 hl).1
      have hy := run_yield (P := P) (args := encs x) hl (by rw [hrec]; exact hps x)
      rw [hrec] at hy
      refine ⟨fn, _, assign, body, hy, roundIn_of_wpIn hfn (hassign _ x W _ ?_)⟩
      clear hy
      refine ⟨_, run_beginRound hl (by rw [hrec]), ?_⟩
      have hl2 : (W.putObj (w.heap.size + 1) (.loop { rec .ready none with state := .busy })).heap[w.heap.size + 1]? = some (.loop { rec .ready none with state := .busy }) := World.putObj_heap_same hlt
      have hk2 : (W.putObj (w.heap.size + 1) (.loop { rec .ready none with state := .busy })).heap[w.heap.size]? = some (.deferred (some [])) := (World.putObj_heap_other (by omega)).trans hk
      have hc2 : Calm w.heap.size W (W.putObj (w.heap.size + 1) (.loop { rec .ready none with state := .busy })) := Calm.put _ hl rfl (by omega)
      refine wpIn_mono (hbody _ pre x _ (hI _ _ _ hi hc2) (hPx _ _ _ _ hpx hc2)) ?_
      have fin : ∀ (jump : Option Code) (W3 : World), KeepsFrom w.heap.size (W.putObj (w.heap.size + 1) (.loop { rec .ready none with state := .busy })) W3 →
          (Instr.endRound (w.heap.size + 1) jump).run P W3 = .ok (.bool jump.isNone) (W3.putObj (w.heap.size + 1) (.loop (rec (if jump.isNone then .ready else .done) jump))) ∧
          W3.heap[w.heap.size + 1]? = some (.loop { rec .ready none with state := .busy }) ∧
          (W3.putObj (w.heap.size + 1) (.loop (rec (if jump.isNone then .ready else .done) jump))).heap[w.heap.size + 1]? = some (.loop (rec (if jump.isNone then .ready else .done) jump)) ∧
          (W3.putObj (w.heap.size + 1) (.loop (rec (if jump.isNone then .ready else .done) jump))).heap[w.heap.size]? = some (.deferred (some [])) := fun jump W3 hk3 => by
        have hl3 := hk3.same _ _ (by omega) hl2 rfl
        have := run_endRound (P := P) jump hl3
        rw [hrec] at this ⊢
        exact ⟨this, by rw [hrec] at hl3; exact hl3, World.putObj_heap_same (Array.getElem?_eq_some_iff.1 hl3).1, (World.putObj_heap_other (by omega)).trans (hk3.same _ _ (Nat.le_refl _) hk2 rfl)⟩
      rintro e a3 W3 hp
      cases e with
      | normal =>
        obtain ⟨hk3, hkp3, hi3⟩ := hp
        obtain ⟨hr, hl3, hl4, hk4⟩ := fin none W3 hk3
        have hc4 : Calm w.heap.size W3 (W3.putObj (w.heap.size + 1) (.loop (rec (if (none : Option Code).isNone then .ready else .done) none))) := Calm.put _ hl3 rfl (by omega)
        exact ⟨_, _, hr, .inl ⟨rfl, ⟨hI _ _ _ hi3 hc4, hl4, hk4⟩, hKt (hKt (hKc _ _ (by omega) hc2) hkp3) (hKc _ _ (by have := hk3.size; simp at this; omega) hc4)⟩⟩
      | ret =>
        obtain ⟨hk3, hi3⟩ := hp
        obtain ⟨hr, hl3, hl4, hk4⟩ := fin (some .ret) W3 hk3
        exact ⟨_, _, hr, .inr ⟨rfl, .ret, hIx _ _ _ _ hi3 (Calm.put _ hl3 rfl (by omega)), hl4, hk4⟩⟩
      | exit id =>
        obtain ⟨hk3, hi3⟩ := hp
        obtain ⟨hr, hl3, hl4, hk4⟩ := fin (some (.exit id)) W3 hk3
        exact ⟨_, _, hr, .inr ⟨rfl, .exit id, hIx _ _ _ _ hi3 (Calm.put _ hl3 rfl (by omega)), hl4, hk4⟩⟩
      | goto t =>
        obtain ⟨hk3, hi3⟩ := hp
        obtain ⟨hr, hl3, hl4, hk4⟩ := fin (some (.goto t)) W3 hk3
        exact ⟨_, _, hr, .inr ⟨rfl, .goto t, hIx _ _ _ _ hi3 (Calm.put _ hl3 rfl (by omega)), hl4, hk4⟩⟩
      | panic ch => exact hp.elim
      | outgrown => exact hp.elim
    · rintro e W2 ⟨⟨v, rfl⟩, (⟨xs, hS, hi, hl, hk⟩ | ⟨pre, hSp, c, hi, hl, hk⟩)⟩
      · exact ⟨none, _, by have := run_endLoop (P := P) hl (by rw [hrec]; simp); rw [hrec] at this; exact this, hdone _ xs _ (Nat.le_refl _) hS (hI _ _ _ hi (Calm.put _ hl rfl (by omega))) ((World.putObj_heap_other (by omega)).trans hk)⟩
      · exact ⟨some c, _, by have := run_endLoop (P := P) hl (by rw [hrec]; simp); rw [hrec] at this; exact this, hstop _ c pre _ (Nat.le_refl _) hSp (hIx c _ _ _ hi (Calm.put _ hl rfl (by omega))) ((World.putObj_heap_other (by omega)).trans hk)⟩
end
end Go.Proofs.YtikohamfnnlhcaaGreatDoor

namespace Go.Proofs.YtikohamfnnlhcaaGreatDoor
open Go.RowKit Go.Deep Go.Shelf
attribute [local go_sem] Oper.semAt_some

/-- lex's tables and strconv's variables, as they are laid. -/
def Lays (w : World) : Prop := KeysAt w ∧ SignsAt w ∧ Tabs w
theorem KeysAt.below {w w' : World} (h : KeysAt w) (hb : Below w.heap.size w w') : KeysAt w' := fun j x hx => (hb.cell (p := ⟨6, j, none⟩) (World.block_lt_of_cell? w _ (h j x hx))).trans (h j x hx)
theorem SignsAt.below {w w' : World} (h : SignsAt w) (hb : Below w.heap.size w w') : SignsAt w' := fun j x hx => (hb.cell (p := ⟨5, j, none⟩) (World.block_lt_of_cell? w _ (h j x hx))).trans (h j x hx)
theorem Lays.below {w w' : World} (h : Lays w) (hb : Below w.heap.size w w') : Lays w' := ⟨h.1.below hb, h.2.1.below hb, h.2.2.below hb⟩
/-- they lie below a block, wherever else the world turns. -/
theorem Lays.keep {w a w' : World} (h : Lays w) (ha : Below w.heap.size w a) (hb : Below w.heap.size a w') : Lays w' := h.below (ha.trans hb)

/-- a token as the program has it. -/
def tokV (o : Option (Nat × List UInt8)) (k : Nat) : Value :=
  match o with
  | none => .agg #[.int .i64 0, .string noText, .int .i64 (k : Int)]
  | some (q, t) => .agg #[.int .i64 (q : Int), .string (bts t), .int .i64 (k : Int)]
theorem bts_list (l : List UInt8) : (bts l).data.toList = l := rfl
theorem kind_nil : kindW [] = 0 := by decide
theorem isempty_bts {l : List UInt8} (h : l ≠ []) : (bts l).toList.isEmpty = false := by
  rw [Lib.toList_data]
  cases l with
  | nil => exact absurd rfl h
  | cons c r => rfl

set_option maxRecDepth 100000 in
set_option maxHeartbeats 1000000 in
theorem read_any (s : ByteArray) (k : Nat) (w : World) (hs : s.size ≤ maxLen) (hs2 : s.size ≤ 281474976710656) (hk : k ≤ s.size) (hL : Lays w) :
    Calls Tryz.prog 136 #[.string s, .int .i64 k] w fun e w' => e = .returned (tokV (tokOf kindW (s.data.toList.drop k)) k) ∧ Below w.heap.size w w' := by
  have hz : (s.extract k s.size).size = s.size - k := by simp
  have HFW := Lib.hid (fun W => firstWord_any (s.extract k s.size) W (by omega))
  have HFS := Lib.hid (fun W => firstSign_any (s.extract k s.size) W)
  rw [drop_text] at HFW HFS
  have hwl : (s.data.toList.drop k).takeWhile wb = s.data.toList.drop k ∨ True := .inr trivial
  have hlen : ((s.data.toList.drop k).takeWhile wb).length ≤ s.size := by
    have h1 := (List.takeWhile_prefix (p := wb) (l := s.data.toList.drop k)).length_le
    simp at h1
    omega
  have HTk : Hid (tokOf kindW (s.data.toList.drop k) = if (s.data.toList.drop k).takeWhile wb = [] then (signOf (s.data.toList.drop k)).map fun p => (5, p) else if kindW ((s.data.toList.drop k).takeWhile wb) = 0 then none else some (kindW ((s.data.toList.drop k).takeWhile wb), (s.data.toList.drop k).takeWhile wb)) := rfl
  generalize (s.data.toList.drop k).takeWhile wb = W at HFW HTk hlen
  generalize signOf (s.data.toList.drop k) = sg at HFS HTk
  generalize tokOf kindW (s.data.toList.drop k) = tk at HTk ⊢
  clear hwl hz
  have hsz : (bts W).size ≤ s.size := by rw [bts_size]; exact hlen
  have HB0 : Below w.heap.size w (w.alloc (.cells #[.int .i64 0, .string noText, .int .i64 0] 195)) := (Below.refl _ _).alloc (Nat.le_refl _) _
  have hO := heap_alloc_new w (.cells #[.int .i64 0, .string noText, .int .i64 0] 195)
  have hO : Own (w.alloc (.cells #[.int .i64 0, .string noText, .int .i64 0] 195)) w.heap.size 195 [.int .i64 0, .string noText, .int .i64 0] := hO
  obtain ⟨w0, hw0⟩ : ∃ w0, w0 = w.alloc (.cells #[.int .i64 0, .string noText, .int .i64 0] 195) := ⟨_, rfl⟩
  rw [← hw0] at HB0 hO
  have HL0 := Lib.hid (hL.below HB0)
  have HB := Lib.hid HB0
  have HO := Lib.hid hO
  have HW := Lib.hid hw0
  have HWK := Lib.hid (wordKind_any (bts W) w0 (by omega) (by omega) HL0.out.1 HL0.out.2.2)
  rw [bts_list] at HWK
  clear HB0 hO hw0 hL
  unfold maxLen at hs
  by_cases hW : W = []
  · subst hW
    rw [kind_nil] at HWK
    go_enter Tryz.func136, Tryz.ntmps136
    go_wp2_with fail
    rw [← HW.out]
    refine (HFW.out w0).mono ?_
    rintro e w1 ⟨rfl, rfl⟩
    go_wp2_with fail
    refine HWK.out.mono ?_
    rintro e w1 ⟨rfl, b1⟩
    have B1 := Lib.hid (HB.out.trans (b1.mono HB.out.size))
    have HL1 := Lib.hid (HL0.out.below b1)
    have HO1 := Lib.hid (HO.out.below b1)
    clear b1 HWK HFW
    go_wp2_with fail
    refine (HFS.out w1 HL1.out.2.1).mono ?_
    rintro e w2 ⟨rfl, rfl⟩
    have c0 := HO1.out.cell 0
    have c1 := HO1.out.cell 1
    have c2 := HO1.out.cell 2
    have f0 := HO1.out.frozen 0
    have f1 := HO1.out.frozen 1
    have f2 := HO1.out.frozen 2
    have q0 := HO1.out.lt
    cases sg with
    | none =>
      simp only [signV]
      go_wp2
      exact bodyPost_ret (v := tokV tk k) (by rw [HTk.out]; simp [results, Tryz.results136, go_sem, tokV, (((HO1.out.set 0 (.int .i64 0)).set 1 (.string noText)).set 2 (.int .i64 (k : Int))).cell]) rfl ⟨rfl, ((B1.out.setCell (p := ⟨w.heap.size, 0, none⟩) (Nat.le_refl _) _).setCell (p := ⟨w.heap.size, 1, none⟩) (Nat.le_refl _) _).setCell (p := ⟨w.heap.size, 2, none⟩) (Nat.le_refl _) _⟩
    | some p =>
      simp only [signV]
      go_wp2
      exact bodyPost_ret (v := tokV tk k) (by rw [HTk.out]; simp [results, Tryz.results136, go_sem, tokV, (((HO1.out.set 0 (.int .i64 5)).set 1 (.string (bts p))).set 2 (.int .i64 (k : Int))).cell]) rfl ⟨rfl, ((B1.out.setCell (p := ⟨w.heap.size, 0, none⟩) (Nat.le_refl _) _).setCell (p := ⟨w.heap.size, 1, none⟩) (Nat.le_refl _) _).setCell (p := ⟨w.heap.size, 2, none⟩) (Nat.le_refl _) _⟩
  · have he := isempty_bts hW
    have HTk' : Hid (tk = if kindW W = 0 then none else some (kindW W, W)) := by show _ = _; rw [HTk.out, if_neg hW]
    have he2 : ((bts W).toList == []) = false := by
      cases hl : (bts W).toList with
      | nil => rw [hl] at he; cases he
      | cons _ _ => rfl
    generalize hq : kindW W = q at HWK HTk'
    obtain ⟨T, hT⟩ : ∃ T, T = bts W := ⟨_, rfl⟩
    rw [← hT] at HFW HWK he he2
    have HT := Lib.hid hT
    clear hT HTk hq hW hsz hlen HFS
    by_cases h0 : q = 0
    · subst h0
      go_enter Tryz.func136, Tryz.ntmps136
      go_wp2_with fail
      rw [← HW.out]
      refine (HFW.out w0).mono ?_
      rintro e w1 ⟨rfl, rfl⟩
      go_wp2_with fail
      refine HWK.out.mono ?_
      rintro e w1 ⟨rfl, b1⟩
      have B1 := Lib.hid (HB.out.trans (b1.mono HB.out.size))
      have HO1 := Lib.hid (HO.out.below b1)
      clear b1 HWK HFW
      have c0 := HO1.out.cell 0
      have c1 := HO1.out.cell 1
      have c2 := HO1.out.cell 2
      have f0 := HO1.out.frozen 0
      have f1 := HO1.out.frozen 1
      have f2 := HO1.out.frozen 2
      have q0 := HO1.out.lt
      go_wp2
      exact bodyPost_ret (v := tokV tk k) (by rw [HTk'.out]; simp [results, Tryz.results136, go_sem, tokV, (((HO1.out.set 0 (.int .i64 0)).set 1 (.string noText)).set 2 (.int .i64 (k : Int))).cell]) rfl ⟨rfl, ((B1.out.setCell (p := ⟨w.heap.size, 0, none⟩) (Nat.le_refl _) _).setCell (p := ⟨w.heap.size, 1, none⟩) (Nat.le_refl _) _).setCell (p := ⟨w.heap.size, 2, none⟩) (Nat.le_refl _) _⟩
    · have h00 : ((q : Int) == 0) = false := by simp only [beq_eq_false_iff_ne]; omega
      have HN := Lib.hid h0
      clear h0
      go_enter Tryz.func136, Tryz.ntmps136
      go_wp2_with fail
      rw [← HW.out]
      refine (HFW.out w0).mono ?_
      rintro e w1 ⟨rfl, rfl⟩
      go_wp2_with fail
      refine HWK.out.mono ?_
      rintro e w1 ⟨rfl, b1⟩
      have B1 := Lib.hid (HB.out.trans (b1.mono HB.out.size))
      have HO1 := Lib.hid (HO.out.below b1)
      clear b1 HWK HFW
      have c0 := HO1.out.cell 0
      have c1 := HO1.out.cell 1
      have c2 := HO1.out.cell 2
      have f0 := HO1.out.frozen 0
      have f1 := HO1.out.frozen 1
      have f2 := HO1.out.frozen 2
      have q0 := HO1.out.lt
      go_wp2
      exact bodyPost_ret (v := tokV tk k) (by rw [HTk'.out, if_neg HN.out]; simp only [tokV]; rw [← HT.out]; simp [results, Tryz.results136, go_sem, (((HO1.out.set 0 (.int .i64 (q : Int))).set 1 (.string T)).set 2 (.int .i64 (k : Int))).cell]) rfl ⟨rfl, ((B1.out.setCell (p := ⟨w.heap.size, 0, none⟩) (Nat.le_refl _) _).setCell (p := ⟨w.heap.size, 1, none⟩) (Nat.le_refl _) _).setCell (p := ⟨w.heap.size, 2, none⟩) (Nat.le_refl _) _⟩
end Go.Proofs.YtikohamfnnlhcaaGreatDoor

namespace Go.Proofs.YtikohamfnnlhcaaGreatDoor
open Go.RowKit Go.Deep Go.Shelf
attribute [local go_sem] Oper.semAt_some

/-- the blocks that a loop's body may turn: Z, the box B, and the row that the box's cell i names. -/
def footL (Z : List Nat) (B i : Nat) (W : World) : List Nat :=
  Z ++ B :: (match W.cell? ⟨B, i, none⟩ with | some (.slice (some a) _ _) => [a.block] | _ => [])
/-- what a body that turns these alone keeps. -/
structure Kf (Z : List Nat) (B i : Nat) (w w' : World) : Prop where
  os : w'.os = w.os
  tape : w'.tape = w.tape
  output : w'.output = w.output
  size : w.heap.size ≤ w'.heap.size
  block : ∀ (k : Nat) (o : Obj), w.heap[k]? = some o → o.isCells = true → k ∉ footL Z B i w → w'.heap[k]? = some o
  sub : Sub (footL Z B i w') (footL Z B i w) w.heap.size
  lt : (∀ k ∈ footL Z B i w, k < w.heap.size) → ∀ k ∈ footL Z B i w', k < w'.heap.size
section
variable {Z : List Nat} {B i : Nat} {w w' X Y W : World}
theorem foot_same (h : Y.cell? ⟨B, i, none⟩ = X.cell? ⟨B, i, none⟩) : footL Z B i Y = footL Z B i X := by unfold footL; rw [h]
theorem Kf.refl (w : World) : Kf Z B i w w := ⟨rfl, rfl, rfl, Nat.le_refl _, fun _ _ h _ _ => h, Sub.refl _ _, fun h => h⟩
theorem Kf.trans (h : Kf Z B i X Y) (h' : Kf Z B i Y W) : Kf Z B i X W :=
  ⟨h'.os.trans h.os, h'.tape.trans h.tape, h'.output.trans h.output, Nat.le_trans h.size h'.size, fun k o hk ho hn => h'.block k o (h.block k o hk ho hn) ho (fun hm => by
    rcases h.sub k hm with h1 | h1
    · exact hn h1
    · have := (Array.getElem?_eq_some_iff.1 hk).1
      omega), h.sub.trans h'.sub h.size, fun h0 => h'.lt (h.lt h0)⟩
theorem Kf.of_below (h : Below X.heap.size X Y) (hB : B < X.heap.size) : Kf Z B i X Y :=
  ⟨h.os, h.tape, h.output, h.size, fun k _ hk _ _ => (h.block k (Array.getElem?_eq_some_iff.1 hk).1).trans hk, by rw [foot_same (h.cell (p := ⟨B, i, none⟩) hB)]; exact Sub.refl _ _, fun h0 k hk => by rw [foot_same (h.cell (p := ⟨B, i, none⟩) hB)] at hk; exact Nat.lt_of_lt_of_le (h0 k hk) h.size⟩
theorem calm_cell {n : Nat} (h : Calm n X Y) (hB : B < X.heap.size) (hn : B < n) : Y.cell? ⟨B, i, none⟩ = X.cell? ⟨B, i, none⟩ := by
  have h2 : X.heap[B]? = some X.heap[B] := Array.getElem?_eq_getElem hB
  exact World.cell?_of_block (w := X) (a := ⟨B, i, none⟩) ((h.block B _ h2 (.inl hn)).trans h2.symm)
theorem Kf.of_calm {n : Nat} (h : Calm n X Y) (hB : B < X.heap.size) (hn : B < n) : Kf Z B i X Y :=
  ⟨h.os, h.tape, h.output, h.size, fun k o hk ho _ => h.block k o hk (.inr ho), by rw [foot_same (calm_cell h hB hn)]; exact Sub.refl _ _, fun h0 k hk => by rw [foot_same (calm_cell h hB hn)] at hk; exact Nat.lt_of_lt_of_le (h0 k hk) h.size⟩
theorem Kf.of_kept {S : List Nat} (h : Kept S X Y) (hs : ∀ k ∈ S, k ∈ footL Z B i X) (hf : Sub (footL Z B i Y) (footL Z B i X) X.heap.size) (hlt : ∀ k ∈ footL Z B i Y, k < Y.heap.size) : Kf Z B i X Y :=
  ⟨h.os, h.tape, h.output, h.size, fun k _ hk _ hn => (h.block k (Array.getElem?_eq_some_iff.1 hk).1 (fun hm => hn (hs k hm))).trans hk, hf, fun _ => hlt⟩
theorem Kf.calm (h : Kf Z B i X Y) (hf : ∀ k ∈ footL Z B i X, W.heap.size ≤ k) (h0 : Calm 0 W X) : Calm 0 W Y :=
  ⟨h.os.trans h0.os, h.tape.trans h0.tape, h.output.trans h0.output, Nat.le_trans h0.size h.size, fun k o hk ho => by
    have hc : o.isCells = true := by
      rcases ho with h1 | h1
      · omega
      · exact h1
    refine h.block k o (h0.block k o hk ho) hc (fun hm => ?_)
    have := hf k hm
    have := (Array.getElem?_eq_some_iff.1 hk).1
    omega⟩
theorem Kf.cell (h : Kf Z B i X Y) {p : Addr} {v : Value} (hc : X.cell? p = some v) (hn : p.block ∉ footL Z B i X) : Y.cell? p = some v := by
  obtain ⟨o, ho, hcl⟩ := cells_of_cell hc
  exact (World.cell?_of_block (w := X) ((h.block _ _ ho hcl hn).trans ho.symm)).trans hc
theorem Kf.own (h : Kf Z B i X Y) {g : Nat} {e : TypeId} {xs : List Value} (ho : Own X g e xs) (hn : g ∉ footL Z B i X) : Own Y g e xs := h.block _ _ ho rfl hn
theorem Calm.trans {n : Nat} (h : Calm n X Y) (h' : Calm n Y W) : Calm n X W :=
  ⟨h'.os.trans h.os, h'.tape.trans h.tape, h'.output.trans h.output, Nat.le_trans h.size h'.size, fun k o hk ho => h'.block k o (h.block k o hk ho) ho⟩
theorem Calm.zero {n : Nat} (h : Calm n X Y) : Calm 0 X Y := ⟨h.os, h.tape, h.output, h.size, fun k o hk ho => h.block k o hk (by
  rcases ho with h1 | h1
  · omega
  · exact .inr h1)⟩
end
theorem Own.inj {W : World} {g : Nat} {e e' : TypeId} {us us' : List Value} (h : Own W g e us) (h' : Own W g e' us') : e = e' := by
  unfold Own at h h'
  rw [h] at h'
  injection h' with h'
  injection h' with _ h' _

theorem foot_int {W : World} {B : Nat} {n : Int} (Z : List Nat) (h : W.cell? ⟨B, 0, none⟩ = some (.int .i64 n)) : footL Z B 0 W = Z ++ [B] := by
  unfold footL
  rw [h]
/-- the blocks of the variables that are laid lie below n. -/
def Gl (n : Nat) : Prop := 6 < n ∧ 5 < n ∧ 11 < n ∧ 12 < n ∧ 8 < n
theorem var_lt {n : String} {g : Nat} {cs : Array Value} {w : World} (hg : Tryz.prog.globalNamed n = some g) (h : World.var? Tryz.prog w n = some cs) : ∃ t f, w.heap[g]? = some (.cells cs t f) := by
  simp only [World.var?, hg, Option.bind_some] at h
  split at h
  · rename_i cs' t f he
    cases h
    exact ⟨t, f, he⟩
  · cases h
theorem var_of {n : String} {g : Nat} {cs : Array Value} {t : TypeId} {f : Nat × Nat} {w : World} (hg : Tryz.prog.globalNamed n = some g) (h : w.heap[g]? = some (.cells cs t f)) : World.var? Tryz.prog w n = some cs := by
  simp only [World.var?, hg, Option.bind_some, h]
theorem Lays.gl {w : World} (h : Lays w) : Gl w.heap.size := by
  obtain ⟨h1, h2, h3, ⟨_, _, h4⟩, ⟨_, _, h5⟩⟩ := h
  obtain ⟨_, _, e3⟩ := var_lt gPow h3
  obtain ⟨_, _, e4⟩ := var_lt gSyn h4
  obtain ⟨_, _, e5⟩ := var_lt gRng h5
  exact ⟨World.block_lt_of_cell? w _ (h1 0 _ rfl), World.block_lt_of_cell? w _ (h2 0 _ rfl), (Array.getElem?_eq_some_iff.1 e4).1, (Array.getElem?_eq_some_iff.1 e5).1, (Array.getElem?_eq_some_iff.1 e3).1⟩
theorem Gl.more {n m : Nat} (h : Gl n) (hm : n ≤ m) : Gl m := ⟨Nat.lt_of_lt_of_le h.1 hm, Nat.lt_of_lt_of_le h.2.1 hm, Nat.lt_of_lt_of_le h.2.2.1 hm, Nat.lt_of_lt_of_le h.2.2.2.1 hm, Nat.lt_of_lt_of_le h.2.2.2.2 hm⟩
theorem var_kf {Z : List Nat} {B i n0 : Nat} {X Y : World} {n : String} {g : Nat} {cs : Array Value} (hk : Kf Z B i X Y) (hf : ∀ k ∈ footL Z B i X, n0 ≤ k) (hl : g < n0) (hg : Tryz.prog.globalNamed n = some g) (h : World.var? Tryz.prog X n = some cs) : World.var? Tryz.prog Y n = some cs := by
  obtain ⟨t, f, he⟩ := var_lt hg h
  exact var_of hg (hk.block g _ he rfl (fun hm => by have := hf g hm; omega))
theorem Lays.kf {Z : List Nat} {B i n0 : Nat} {X Y : World} (h : Lays X) (hk : Kf Z B i X Y) (hf : ∀ k ∈ footL Z B i X, n0 ≤ k) (hG : Gl n0) : Lays Y := by
  obtain ⟨h1, h2, h3, ⟨t4, p4, h4⟩, ⟨t5, p5, h5⟩⟩ := h
  obtain ⟨g1, g2, g3, g4, g5⟩ := hG
  exact ⟨fun j x hx => hk.cell (h1 j x hx) (fun hm => by have := hf _ hm; simp only at this; omega), fun j x hx => hk.cell (h2 j x hx) (fun hm => by have := hf _ hm; simp only at this; omega),
    var_kf hk hf g5 gPow h3, ⟨t4, p4, var_kf hk hf g3 gSyn h4⟩, ⟨t5, p5, var_kf hk hf g4 gRng h5⟩⟩

theorem skip_twice (l : List UInt8) : skipN false (l.drop (skipN false l)) = 0 := by
  cases h : l.drop (skipN false l) with
  | nil => rfl
  | cons c r =>
    obtain ⟨h1, h2⟩ := skip_head l false c r h
    exact skip_no h1 h2
theorem tok_kind {l : List UInt8} {q : Nat} {t : List UInt8} (h : tokOf kindW l = some (q, t)) : q ≠ 0 := by
  unfold tokOf at h
  split at h
  · rw [Option.map_eq_some_iff] at h
    obtain ⟨p, _, h2⟩ := h
    injection h2 with h1 _
    omega
  · split at h
    · cases h
    · rename_i hk
      injection h with h
      injection h with h1 _
      omega
/-- what the iterator yields. -/
def yOf (R : List Tk × Option Nat) : List Tk := R.1 ++ (match R.2 with | none => [] | some p => [(0, [], p)])
/-- the error beside a token. -/
def errT (q : Nat) : Value := if q = 0 then eno 2 else .nilIface
abbrev tkV (x : Tk) : Value := .agg #[.int .i64 (x.1 : Int), .string (bts x.2.1), .int .i64 (x.2.2 : Int)]
theorem yOf_end (o : Nat) (l : List UInt8) (h : l = []) : yOf (lexA kindW o l) = [] := by
  subst h
  rw [lexA_end rfl]
  rfl
theorem yOf_bad {o : Nat} {l : List UInt8} (h0 : skipN false l = 0) (hn : l ≠ []) (ht : tokOf kindW l = none) : yOf (lexA kindW o l) = [(0, [], o)] := by
  rw [lexA_bad (by rw [h0]; exact hn) (by rw [h0]; exact ht), h0]
  rfl
theorem yOf_tok {o q : Nat} {l t : List UInt8} (h0 : skipN false l = 0) (hn : l ≠ []) (ht : tokOf kindW l = some (q, t)) :
    yOf (lexA kindW o l) = (q, t, o) :: yOf (lexA kindW (o + t.length + skipN false (l.drop t.length)) (l.drop (t.length + skipN false (l.drop t.length)))) := by
  rw [lexA_tok (by rw [h0]; exact hn) (by rw [h0]; exact ht), h0]
  simp only [List.drop_zero, Nat.add_zero]
  rw [lexA_skip (o + t.length) (l.drop t.length) (skipN false (l.drop t.length)) (by rw [skip_twice]; rfl), List.drop_drop]
  rfl
end Go.Proofs.YtikohamfnnlhcaaGreatDoor
