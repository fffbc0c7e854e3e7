/- Words: what kind they are. Conditions: texts of at most 2^47 bytes; lex's two tables and strconv's variables as they are laid. -/
import Derived.Test.YtlfakhjcpdkaiaaGreatDoorLexB
namespace Go.Proofs.YtlfakhjcpdkaiaaGreatDoor
open Go.RowKit Go.Deep

/-- the table of keys, cell for cell. -/
def KeysAt (w : World) : Prop := ∀ (j : Nat) x, keysL[j]? = some x → w.cell? ⟨1, j, none⟩ = some (.string (bts x))
def SignsAt (w : World) : Prop := ∀ (j : Nat) x, signsL[j]? = some x → w.cell? ⟨0, j, none⟩ = some (.string (bts x))

set_option maxRecDepth 100000 in
theorem key_at {k : Nat} (hk : k < 8) (w : World) : (Instr.index 160 (.agg #[.string (bts [114,101,108]), .string (bts [105,110,116]), .string (bts [115,121,109]), .string (bts [110,111,116]), .string (bts [99,111,117,110,116]), .string (bts [115,117,109]), .string (bts [109,105,110]), .string (bts [109,97,120])]) (.int .i64 k)).run Tryz.prog w = .ok (.string (bts (keysL.getD k []))) w := by
  obtain rfl | rfl | rfl | rfl | rfl | rfl | rfl | rfl : k = 0 ∨ k = 1 ∨ k = 2 ∨ k = 3 ∨ k = 4 ∨ k = 5 ∨ k = 6 ∨ k = 7 := by omega
  all_goals kernel_rfl
theorem str_eq {s : ByteArray} {l : List UInt8} (h : s.data.toList = l) : (s.toList == l) = true := by
  rw [Lib.toList_data, h]
  simp
theorem str_ne {s : ByteArray} {l : List UInt8} (h : s.data.toList ≠ l) : (s.toList == l) = false := by
  rw [Lib.toList_data]
  simpa using h
/-- is it a key? -/
def keyB (l : List UInt8) : Bool := keysL.contains l
/-- is it a variable? -/
def varB : List UInt8 → Bool
  | [] => false
  | c :: r => upB c && decide ((((c :: r).length : Nat) : Int) ≤ 32)
theorem key_yes {l : List UInt8} {k : Nat} (hk : k < 8) (h : l = keysL.getD k []) : keyB l = true := by
  unfold keyB
  rw [List.contains_iff_mem, h]
  have hk8 : k < keysL.length := hk
  rw [List.getD_eq_getElem?_getD, List.getElem?_eq_getElem hk8]
  exact List.getElem_mem hk8
theorem key_no {l : List UInt8} (h : ∀ j < 8, l ≠ keysL.getD j []) : keyB l = false := by
  cases hc : keyB l with
  | false => rfl
  | true =>
    unfold keyB at hc
    rw [List.contains_iff_mem] at hc
    obtain ⟨j, hj, e⟩ := List.mem_iff_getElem.1 hc
    exact absurd (by rw [List.getD_eq_getElem?_getD, List.getElem?_eq_getElem hj]; exact e.symm) (h j hj)

set_option maxRecDepth 100000 in
set_option maxHeartbeats 1000000 in
theorem key_any (s : ByteArray) (w : World) (hk : KeysAt w) :
    Calls Tryz.prog 96 #[.string s] w fun e w' => e = .returned (.bool (keyB s.data.toList)) ∧ w = w' := by
  have c0 := hk 0 _ rfl
  have c1 := hk 1 _ rfl
  have c2 := hk 2 _ rfl
  have c3 := hk 3 _ rfl
  have c4 := hk 4 _ rfl
  have c5 := hk 5 _ rfl
  have c6 := hk 6 _ rfl
  have c7 := hk 7 _ rfl
  clear hk
  go_enter Tryz.func96, Tryz.ntmps96
  go_wp2
  clear c0 c1 c2 c3 c4 c5 c6 c7
  go_loop [6] (fun i => ∃ k : Nat, k ≤ 8 ∧ i = .int .i64 k ∧ Hid (∀ j < k, s.data.toList ≠ keysL.getD j [])) (fun i => 8 - (intOf i).toNat)
  case atStart => exact ⟨0, Nat.zero_le _, rfl, fun _ h => absurd h (by omega)⟩
  case round =>
    obtain ⟨k, hk, rfl, HK⟩ := hrel
    by_cases hlt : k < 8
    · have hx := key_at hlt
      by_cases he : s.data.toList = keysL.getD k []
      · have h1 := str_eq he
        have HQ := Lib.hid (key_yes hlt he)
        clear he
        generalize keysL.getD k [] = t at hx h1
        go_wp2
        go_ret
        exact ⟨ret_bool HQ.out.symm, rfl⟩
      · have h1 := str_ne he
        have HQ : Hid (∀ j < k + 1, s.data.toList ≠ keysL.getD j []) := fun j hj => by
          by_cases h : j = k
          · subst h; exact he
          · exact HK.out j (by omega)
        clear he HK
        generalize keysL.getD k [] = t at hx h1
        go_wp2
        go_round
        case rel => exact ⟨k + 1, by omega, by go_num, HQ⟩
        case measure => simp [intOf]; omega
    · have HQ := Lib.hid (key_no fun j hj => HK.out j (by omega))
      go_wp2
      go_ret
      exact ⟨ret_bool HQ.out.symm, rfl⟩

set_option maxRecDepth 100000 in
set_option maxHeartbeats 400000 in
theorem variable_any (s : ByteArray) (w : World) (hs : s.size ≤ maxLen) :
    Calls Tryz.prog 97 #[.string s] w fun e w' => e = .returned (.bool (varB s.data.toList)) ∧ w = w' := by
  unfold maxLen at hs
  by_cases h0 : 0 < s.size
  · have hne := (empty_not (s := s) (by omega)).2
    have hne2 := empty_not (s := s) (by omega)
    have HV : Hid (varB s.data.toList = (upB s[0] && decide ((s.size : Int) ≤ 32))) := by
      show _ = _
      have e : s.data.toList = s[0] :: s.data.toList.tail := by
        have hl : 0 < s.data.toList.length := by simpa using h0
        cases hc : s.data.toList with
        | nil => rw [hc] at hl; simp at hl
        | cons c r =>
          have : s[0] = s.data.toList[0] := rfl
          simp only [hc, List.getElem_cons_zero] at this
          rw [this]; rfl
      have hz : s.data.toList.length = s.size := by simp
      rw [← hz]
      conv => lhs; rw [e]
      simp only [varB]
      congr 1
      rw [← e]
    cases hu : upB s[0] with
    | true =>
      have H1 := Lib.hid hu
      rw [hu] at HV
      clear hu hne2
      go_enter Tryz.func97, Tryz.ntmps97
      go_wp2_with (go_at_call 102; refine (upper_any _ _ H1.out _).mono ?_; rintro e w' ⟨rfl, rfl⟩)
      go_ret
      exact ⟨ret_bool (by rw [HV.out]; simp), rfl⟩
    | false =>
      have H1 := Lib.hid hu
      rw [hu] at HV
      clear hu hne2
      go_enter Tryz.func97, Tryz.ntmps97
      go_wp2_with (go_at_call 102; refine (upper_any _ _ H1.out _).mono ?_; rintro e w' ⟨rfl, rfl⟩)
      go_ret
      exact ⟨ret_bool (by rw [HV.out]; simp), rfl⟩
  · obtain rfl := empty_of (s := s) (by omega)
    go_enter Tryz.func97, Tryz.ntmps97
    go_wp2
    go_ret
    exact ⟨rfl, rfl⟩

set_option maxRecDepth 100000 in
set_option maxHeartbeats 400000 in
theorem number_yes (s : ByteArray) (n : Int) (w : World) (hs : s.size ≤ maxLen) (hs2 : s.size ≤ 281474976710656) (hm : isName s.data.toList = false) (hp : pv s.data.toList = some n) (hT : Tabs w) :
    Calls Tryz.prog 98 #[.string s] w fun e w' => e = .returned (.bool true) ∧ Below w.heap.size w w' := by
  have HP := Lib.hid (Parse_some s w hs hs2 hm n hp hT)
  clear hp hm hT
  go_enter Tryz.func98, Tryz.ntmps98
  go_wp2_with fail
  refine HP.out.mono ?_
  rintro e w1 ⟨rfl, b1⟩
  have B1 := Lib.hid b1
  clear b1
  go_wp2
  go_ret
  exact ⟨rfl, B1.out.alloc B1.out.size _⟩
set_option maxRecDepth 100000 in
set_option maxHeartbeats 400000 in
theorem number_no (s : ByteArray) (w : World) (hs : s.size ≤ maxLen) (hs2 : s.size ≤ 281474976710656) (hm : isName s.data.toList = false) (hp : pv s.data.toList = none) (hT : Tabs w) :
    Calls Tryz.prog 98 #[.string s] w fun e w' => e = .returned (.bool false) ∧ Below w.heap.size w w' := by
  have HP := Lib.hid (Parse_none s w hs hs2 hm hp hT)
  clear hp hm hT
  have k1 : ∀ w, (binOp .eql 162 (eno 2) .nilIface).run Tryz.prog w = .ok (.bool false) w := fun w => by kernel_rfl
  go_enter Tryz.func98, Tryz.ntmps98
  go_wp2_with fail
  refine HP.out.mono ?_
  rintro e w1 ⟨rfl, b1⟩
  have B1 := Lib.hid b1
  clear b1
  go_wp2
  go_ret
  exact ⟨rfl, B1.out.alloc B1.out.size _⟩

/-- a word's kind: 1 key, 2 name, 3 var, 4 number, 0 none. -/
def kindW (l : List UInt8) : Nat := if keyB l = true then 1 else if isName l = true then 2 else if varB l = true then 3 else if (pv l).isSome = true then 4 else 0
theorem below_drop {w w' : World} (h : w = w') : Below w.heap.size w w' := by rw [h]; exact Below.refl _ _
set_option maxRecDepth 100000 in
set_option maxHeartbeats 1000000 in
theorem wordKind_any (s : ByteArray) (w : World) (hs : s.size ≤ maxLen) (hs2 : s.size ≤ 281474976710656) (hk : KeysAt w) (hT : Tabs w) :
    Calls Tryz.prog 86 #[.string s] w fun e w' => e = .returned (.int .i64 (kindW s.data.toList)) ∧ Below w.heap.size w w' := by
  have HK := Lib.hid (key_any s w hk)
  have HV := Lib.hid (variable_any s w hs)
  cases h1 : keyB s.data.toList with
  | true =>
    have HQ : Hid (kindW s.data.toList = 1) := by show _ = _; simp [kindW, h1]
    rw [h1] at HK
    clear h1 hk hT HV
    go_enter Tryz.func86, Tryz.ntmps86
    go_wp2_with fail
    refine HK.out.mono ?_
    rintro e w1 ⟨rfl, rfl⟩
    go_wp2
    go_ret
    exact ⟨by rw [HQ.out]; rfl, Below.refl _ _⟩
  | false =>
    rw [h1] at HK
    cases h2 : isName s.data.toList with
    | true =>
      have HQ : Hid (kindW s.data.toList = 2) := by show _ = _; simp [kindW, h1, h2]
      have HN := Lib.hid (Name_is s true h2 hs w)
      clear h1 h2 hk hT HV
      go_enter Tryz.func86, Tryz.ntmps86
      go_wp2_with fail
      refine HK.out.mono ?_
      rintro e w1 ⟨rfl, rfl⟩
      go_wp2_with fail
      refine HN.out.mono ?_
      rintro e w1 ⟨rfl, rfl⟩
      go_wp2
      go_ret
      exact ⟨by rw [HQ.out]; rfl, Below.refl _ _⟩
    | false =>
      have HN := Lib.hid (Name_is s false h2 hs w)
      cases h3 : varB s.data.toList with
      | true =>
        have HQ : Hid (kindW s.data.toList = 3) := by show _ = _; simp [kindW, h1, h2, h3]
        rw [h3] at HV
        clear h1 h2 h3 hk hT
        go_enter Tryz.func86, Tryz.ntmps86
        go_wp2_with fail
        refine HK.out.mono ?_
        rintro e w1 ⟨rfl, rfl⟩
        go_wp2_with fail
        refine HN.out.mono ?_
        rintro e w1 ⟨rfl, rfl⟩
        go_wp2_with fail
        refine HV.out.mono ?_
        rintro e w1 ⟨rfl, rfl⟩
        go_wp2
        go_ret
        exact ⟨by rw [HQ.out]; rfl, Below.refl _ _⟩
      | false =>
        rw [h3] at HV
        cases h4 : pv s.data.toList with
        | some n =>
          have HQ : Hid (kindW s.data.toList = 4) := by show _ = _; simp [kindW, h1, h2, h3, h4]
          have HP := Lib.hid (number_yes s n w hs hs2 h2 h4 hT)
          clear h1 h2 h3 h4 hk hT
          go_enter Tryz.func86, Tryz.ntmps86
          go_wp2_with fail
          refine HK.out.mono ?_
          rintro e w1 ⟨rfl, rfl⟩
          go_wp2_with fail
          refine HN.out.mono ?_
          rintro e w1 ⟨rfl, rfl⟩
          go_wp2_with fail
          refine HV.out.mono ?_
          rintro e w1 ⟨rfl, rfl⟩
          go_wp2_with fail
          refine HP.out.mono ?_
          rintro e w2 ⟨rfl, b2⟩
          have B2 := Lib.hid b2
          clear b2
          go_wp2
          go_ret
          exact ⟨by rw [HQ.out]; rfl, B2.out⟩
        | none =>
          have HQ : Hid (kindW s.data.toList = 0) := by show _ = _; simp [kindW, h1, h2, h3, h4]
          have HP := Lib.hid (number_no s w hs hs2 h2 h4 hT)
          clear h1 h2 h3 h4 hk hT
          go_enter Tryz.func86, Tryz.ntmps86
          go_wp2_with fail
          refine HK.out.mono ?_
          rintro e w1 ⟨rfl, rfl⟩
          go_wp2_with fail
          refine HN.out.mono ?_
          rintro e w1 ⟨rfl, rfl⟩
          go_wp2_with fail
          refine HV.out.mono ?_
          rintro e w1 ⟨rfl, rfl⟩
          go_wp2_with fail
          refine HP.out.mono ?_
          rintro e w2 ⟨rfl, b2⟩
          have B2 := Lib.hid b2
          clear b2
          go_wp2
          go_ret
          exact ⟨by rw [HQ.out]; rfl, B2.out⟩
end Go.Proofs.YtlfakhjcpdkaiaaGreatDoor
