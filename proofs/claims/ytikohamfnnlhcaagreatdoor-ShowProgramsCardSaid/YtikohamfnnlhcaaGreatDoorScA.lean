/- The small functions of package value, of corollarynum and of package cmp as they stand at this seat: what each call gives, for every argument; nothing that lay in memory changes. Conditions: none. What tokens a text has: the plain mathematics. Conditions: none. Which texts are names: value.Name and corollaryref01.Name give the same, for every text no longer than Go's longest. What package value's Of, Symbol and Right give, and what corollaryref01.Right and Less, corollarynum.Num and Is give. Conditions: texts no longer than Go's longest. What value.Text gives, and that the law's own fixed fact (alive) is true, wherever the library's table of powers of ten is as its initialiser lays it. Conditions: texts no longer than Go's longest; the table. A number's decimal text, in plain words: its bytes are digits (one hyphen ahead of a negative one), it is no name, and read as a number again it is that number. Conditions: numbers of at most ten digits. corollaryref01's figures: Digits gives a number's decimal text, Text a value's text, Hash its hash. Conditions: numbers that a value may have. -/
import Derived.Test.YtikohamfnnlhcaaGreatDoorRows
import Derived.WalkKit
import Derived.WalkSpells
import Derived.WalkLawsBesides
import Derived.Lib.Join
import Derived.Lib.Hide
import Derived.Handy
import Derived.Lib.Strings
import Derived.Test.YtikohamfnnlhcaaGreatDoorShelf
import Derived.StillTailTactics
import Derived.Lib.Atoi
import Derived.Lib.ItoaNum
import Derived.Lib.ItoaMem
import Derived.Lib.ConvBytes
import Derived.Lib.SmallJoins
namespace Go.Proofs.YtikohamfnnlhcaaGreatDoor
open Go.RowKit

/-- 'n lies in the range of a value's number', as a Bool of its own. -/
def inRng (n : Int) : Bool := decide (-2147483647 ≤ n) && decide (n ≤ 2147483647)
theorem inRng_true {n : Int} (h1 : -2147483647 ≤ n) (h2 : n ≤ 2147483647) : inRng n = true := by simp [inRng, h1, h2]
theorem inRng_iff {n : Int} : inRng n = true ↔ -2147483647 ≤ n ∧ n ≤ 2147483647 := by simp [inRng]
set_option maxHeartbeats 400000 in
theorem inRange_any (n : Int) (w : World) :
    Calls Tryz.prog 149 #[.int .i64 n] w fun e w' => e = .returned (.bool (inRng n)) ∧ w = w' := by
  by_cases h1 : -2147483647 ≤ n
  · by_cases h2 : n ≤ 2147483647
    · have hb := inRng_true h1 h2
      rw [hb]; clear hb
      go_enter Tryz.func149, Tryz.ntmps149
      go_wp2
      go_ret
      exact ⟨rfl, rfl⟩
    · have hb : inRng n = false := by simp [inRng, h2]
      rw [hb]; clear hb
      go_enter Tryz.func149, Tryz.ntmps149
      go_wp2
      go_ret
      exact ⟨rfl, rfl⟩
  · have hb : inRng n = false := by simp [inRng, h1]
    rw [hb]; clear hb
    go_enter Tryz.func149, Tryz.ntmps149
    go_wp2
    go_ret
    exact ⟨rfl, rfl⟩

/-- a letter, as a Bool. -/
def isLet (c : UInt8) : Bool := decide (97 ≤ (c.toNat : Int)) && decide ((c.toNat : Int) ≤ 122)
def isDig (c : UInt8) : Bool := decide (48 ≤ (c.toNat : Int)) && decide ((c.toNat : Int) ≤ 57)

set_option maxHeartbeats 400000 in
theorem letter_any (c : UInt8) (w : World) :
    Calls Tryz.prog 163 #[.int .u8 c.toNat] w fun e w' => e = .returned (.bool (isLet c)) ∧ w = w' := by
  by_cases h1 : 97 ≤ (c.toNat : Int)
  · by_cases h2 : (c.toNat : Int) ≤ 122
    · have hb : isLet c = true := by simp only [isLet, h1, h2]; rfl
      rw [hb]; clear hb
      go_enter Tryz.func163, Tryz.ntmps163
      go_wp2
      go_ret
      exact ⟨rfl, rfl⟩
    · have hb : isLet c = false := by simp only [isLet, h2]; simp
      rw [hb]; clear hb
      go_enter Tryz.func163, Tryz.ntmps163
      go_wp2
      go_ret
      exact ⟨rfl, rfl⟩
  · have hb : isLet c = false := by simp only [isLet, h1]; simp
    rw [hb]; clear hb
    go_enter Tryz.func163, Tryz.ntmps163
    go_wp2
    go_ret
    exact ⟨rfl, rfl⟩

set_option maxHeartbeats 400000 in
theorem digit_any (c : UInt8) (w : World) :
    Calls Tryz.prog 164 #[.int .u8 c.toNat] w fun e w' => e = .returned (.bool (isDig c)) ∧ w = w' := by
  by_cases h1 : 48 ≤ (c.toNat : Int)
  · by_cases h2 : (c.toNat : Int) ≤ 57
    · have hb : isDig c = true := by simp only [isDig, h1, h2]; rfl
      rw [hb]; clear hb
      go_enter Tryz.func164, Tryz.ntmps164
      go_wp2
      go_ret
      exact ⟨rfl, rfl⟩
    · have hb : isDig c = false := by simp only [isDig, h2]; simp
      rw [hb]; clear hb
      go_enter Tryz.func164, Tryz.ntmps164
      go_wp2
      go_ret
      exact ⟨rfl, rfl⟩
  · have hb : isDig c = false := by simp only [isDig, h1]; simp
    rw [hb]; clear hb
    go_enter Tryz.func164, Tryz.ntmps164
    go_wp2
    go_ret
    exact ⟨rfl, rfl⟩

/-- a value as the model has it. -/
abbrev vv (k n : Int) (s : ByteArray) : Value := .agg #[.int .i64 k, .int .i64 n, .string s]

end Go.Proofs.YtikohamfnnlhcaaGreatDoor

namespace Go.Proofs.YtikohamfnnlhcaaGreatDoor

def upB (c : UInt8) : Bool := decide (65 ≤ (c.toNat : Int)) && decide ((c.toNat : Int) ≤ 90)
def wb (c : UInt8) : Bool := isLet c || (upB c || (isDig c || ((c.toNat : Int) == 95)))
def blB (c : UInt8) : Bool := ((c.toNat : Int) == 9) || (((c.toNat : Int) == 10) || (((c.toNat : Int) == 13) || ((c.toNat : Int) == 32)))
def perB (c : UInt8) : Bool := ((c.toNat : Int) == 37)
def lfB (c : UInt8) : Bool := ((c.toNat : Int) == 10)

/-- how many bytes of blanks and comments a text begins with; true: within a comment. -/
def skipN : Bool → List UInt8 → Nat
  | _, [] => 0
  | false, c :: r => if blB c = true then skipN false r + 1 else if perB c = true then skipN true r + 1 else 0
  | true, c :: r => if lfB c = true then skipN false r + 1 else skipN true r + 1
theorem skip_le : ∀ (l : List UInt8) (b : Bool), skipN b l ≤ l.length
  | [], b => by cases b <;> simp [skipN]
  | c :: r, b => by
    have h1 := skip_le r false
    have h2 := skip_le r true
    cases b
    · simp only [skipN, List.length_cons]; split
      · omega
      · split <;> omega
    · simp only [skipN, List.length_cons]; split <;> omega
theorem lf_bl {c : UInt8} (h : lfB c = true) : blB c = true := by
  simp only [lfB] at h
  simp [blB, h]
/-- how far the next line feed is, or the end. -/
def lineN (l : List UInt8) : Nat := (l.takeWhile fun c => !lfB c).length
theorem line_le (l : List UInt8) : lineN l ≤ l.length := (List.takeWhile_prefix _).length_le
theorem skip_line : ∀ (l : List UInt8), skipN true l = lineN l + skipN false (l.drop (lineN l))
  | [] => by simp [skipN, lineN]
  | c :: r => by
    by_cases h : lfB c = true
    · have e : lineN (c :: r) = 0 := by simp [lineN, h]
      rw [e]
      simp only [List.drop_zero, skipN, h, if_true, lf_bl h, Nat.zero_add]
    · have e : lineN (c :: r) = lineN r + 1 := by simp [lineN, h]
      rw [e]
      simp only [skipN, h, if_false, Bool.false_eq_true, List.drop_succ_cons]
      rw [skip_line r]
      omega
/-- a comment: what stands behind the per cent sign's line. -/
theorem skip_per {c : UInt8} {r : List UInt8} (hb : blB c = false) (hp : perB c = true) : skipN false (c :: r) = lineN (c :: r) + skipN false ((c :: r).drop (lineN (c :: r))) := by
  have hl : lfB c = false := by
    cases h : lfB c with
    | false => rfl
    | true => rw [lf_bl h] at hb; cases hb
  have e : lineN (c :: r) = lineN r + 1 := by simp [lineN, hl]
  rw [e]
  simp only [skipN, hb, hp, if_true, if_false, Bool.false_eq_true, List.drop_succ_cons]
  rw [skip_line r]
  omega
theorem skip_bl {c : UInt8} {r : List UInt8} (hb : blB c = true) : skipN false (c :: r) = skipN false r + 1 := by simp [skipN, hb]
theorem skip_no {c : UInt8} {r : List UInt8} (hb : blB c = false) (hp : perB c = false) : skipN false (c :: r) = 0 := by simp [skipN, hb, hp]
theorem skip_head : ∀ (l : List UInt8) (b : Bool) (c : UInt8) (r : List UInt8), l.drop (skipN b l) = c :: r → blB c = false ∧ perB c = false
  | [], b, c, r, h => by simp at h
  | d :: l, b, c, r, h => by
    cases b
    · simp only [skipN] at h
      by_cases hb : blB d = true
      · simp only [hb, if_true, List.drop_succ_cons] at h
        exact skip_head l false c r h
      · by_cases hp : perB d = true
        · simp only [hb, hp, if_true, if_false, Bool.false_eq_true, List.drop_succ_cons] at h
          exact skip_head l true c r h
        · simp only [hb, hp, if_false, Bool.false_eq_true, List.drop_zero, List.cons.injEq] at h
          obtain ⟨rfl, _⟩ := h
          exact ⟨by simpa using hb, by simpa using hp⟩
    · simp only [skipN] at h
      by_cases hb : lfB d = true
      · simp only [hb, if_true, List.drop_succ_cons] at h
        exact skip_head l false c r h
      · simp only [hb, if_false, Bool.false_eq_true, List.drop_succ_cons] at h
        exact skip_head l true c r h

def signsL : List (List UInt8) := [[58,45],[33,61],[60,61],[62,61],[40],[41],[44],[46],[61],[60],[62],[43],[45],[42]]
def keysL : List (List UInt8) := [[114,101,108],[105,110,116],[115,121,109],[110,111,116],[99,111,117,110,116],[115,117,109],[109,105,110],[109,97,120]]
/-- a token: its kind, its text, where it stands. -/
abbrev Tk := Nat × List UInt8 × Nat
def signOf (l : List UInt8) : Option (List UInt8) := signsL.find? fun p => p.isPrefixOf l
def tokOf (kw : List UInt8 → Nat) (l : List UInt8) : Option (Nat × List UInt8) :=
  if l.takeWhile wb = [] then (signOf l).map fun p => (5, p) else if kw (l.takeWhile wb) = 0 then none else some (kw (l.takeWhile wb), l.takeWhile wb)
def lexF (kw : List UInt8 → Nat) : Nat → Nat → List UInt8 → List Tk × Option Nat
  | 0, _, _ => ([], none)
  | f + 1, o, l =>
    if l.drop (skipN false l) = [] then ([], none) else
    match tokOf kw (l.drop (skipN false l)) with
    | none => ([], some (o + skipN false l))
    | some (q, t) => ((q, t, o + skipN false l) :: (lexF kw f (o + skipN false l + t.length) ((l.drop (skipN false l)).drop t.length)).1, (lexF kw f (o + skipN false l + t.length) ((l.drop (skipN false l)).drop t.length)).2)
def lexA (kw : List UInt8 → Nat) (o : Nat) (l : List UInt8) : List Tk × Option Nat := lexF kw (l.length + 1) o l

section
variable {kw : List UInt8 → Nat}
theorem sign_mem {l p : List UInt8} (h : signOf l = some p) : p ∈ signsL ∧ p <+: l := by
  unfold signOf at h
  exact ⟨List.mem_of_find?_eq_some h, by have := List.find?_some h; exact List.isPrefixOf_iff_prefix.1 this⟩
theorem sign_ne {p : List UInt8} (h : p ∈ signsL) : p ≠ [] := by
  rintro rfl
  revert h
  decide
theorem tok_text {l : List UInt8} {q : Nat} {t : List UInt8} (h : tokOf kw l = some (q, t)) : t ≠ [] ∧ t <+: l := by
  unfold tokOf at h
  split at h
  · rw [Option.map_eq_some_iff] at h
    obtain ⟨p, hp, h2⟩ := h
    injection h2 with _ h2
    subst h2
    exact ⟨sign_ne (sign_mem hp).1, (sign_mem hp).2⟩
  · rename_i hn
    split at h
    · cases h
    · injection h with h
      injection h with _ h2
      subst h2
      exact ⟨hn, List.takeWhile_prefix _⟩
theorem lexF_fuel : ∀ (f g o : Nat) (l : List UInt8), l.length < f → l.length < g → lexF kw f o l = lexF kw g o l
  | 0, _, _, _, h, _ => by omega
  | _ + 1, 0, _, _, _, h => by omega
  | f + 1, g + 1, o, l, h1, h2 => by
    simp only [lexF]
    split
    · rfl
    · cases ht : tokOf kw (l.drop (skipN false l)) with
      | none => rfl
      | some qt =>
        obtain ⟨q, t⟩ := qt
        obtain ⟨hn, hp⟩ := tok_text ht
        have h3 : 0 < t.length := List.length_pos_iff.2 hn
        have h4 := hp.length_le
        have h5 : ((l.drop (skipN false l)).drop t.length).length < l.length := by
          simp only [List.length_drop] at h4 ⊢
          omega
        have e := lexF_fuel f g (o + skipN false l + t.length) ((l.drop (skipN false l)).drop t.length) (by omega) (by omega)
        simp only [e]
theorem lexA_end {o : Nat} {l : List UInt8} (h : l.drop (skipN false l) = []) : lexA kw o l = ([], none) := by simp [lexA, lexF, h]
theorem lexA_bad {o : Nat} {l : List UInt8} (h : l.drop (skipN false l) ≠ []) (ht : tokOf kw (l.drop (skipN false l)) = none) : lexA kw o l = ([], some (o + skipN false l)) := by simp [lexA, lexF, h, ht]
theorem lexA_tok {o q : Nat} {l t : List UInt8} (h : l.drop (skipN false l) ≠ []) (ht : tokOf kw (l.drop (skipN false l)) = some (q, t)) :
    lexA kw o l = ((q, t, o + skipN false l) :: (lexA kw (o + skipN false l + t.length) ((l.drop (skipN false l)).drop t.length)).1, (lexA kw (o + skipN false l + t.length) ((l.drop (skipN false l)).drop t.length)).2) := by
  obtain ⟨hn, hp⟩ := tok_text ht
  have h3 : 0 < t.length := List.length_pos_iff.2 hn
  have h4 := hp.length_le
  have h5 : ((l.drop (skipN false l)).drop t.length).length < l.length := by
    simp only [List.length_drop] at h4 ⊢
    omega
  have e := lexF_fuel (kw := kw) l.length (((l.drop (skipN false l)).drop t.length).length + 1) (o + skipN false l + t.length) ((l.drop (skipN false l)).drop t.length) h5 (by omega)
  simp only [lexA, lexF, h, ht, if_false, e]
/-- blanks and comments ahead change nothing but places. -/
theorem lexA_skip (o : Nat) (l : List UInt8) (k : Nat) (hs : skipN false l = k + skipN false (l.drop k)) : lexA kw o l = lexA kw (o + k) (l.drop k) := by
  have e : (l.drop k).drop (skipN false (l.drop k)) = l.drop (skipN false l) := by rw [List.drop_drop, hs]
  have e2 : o + k + skipN false (l.drop k) = o + skipN false l := by omega
  by_cases h : l.drop (skipN false l) = []
  · rw [lexA_end h, lexA_end (by rw [e]; exact h)]
  · cases ht : tokOf kw (l.drop (skipN false l)) with
    | none => rw [lexA_bad h ht, lexA_bad (by rw [e]; exact h) (by rw [e]; exact ht), e2]
    | some qt =>
      obtain ⟨q, t⟩ := qt
      rw [lexA_tok h ht, lexA_tok (o := o + k) (l := l.drop k) (by rw [e]; exact h) (by rw [e]; exact ht), e, e2]
theorem wb_not {c : UInt8} (h : wb c = true) : blB c = false ∧ perB c = false := by
  simp only [wb, isLet, upB, isDig, Bool.or_eq_true, Bool.and_eq_true, decide_eq_true_eq, beq_iff_eq] at h
  simp only [blB, perB, Bool.or_eq_false_iff, beq_eq_false_iff_ne]
  omega
theorem sign_head {p : List UInt8} (h : p ∈ signsL) : ∃ c r, p = c :: r ∧ wb c = false ∧ blB c = false ∧ perB c = false := by
  simp only [signsL, List.mem_cons, List.not_mem_nil, or_false] at h
  rcases h with rfl | rfl | rfl | rfl | rfl | rfl | rfl | rfl | rfl | rfl | rfl | rfl | rfl | rfl <;> exact ⟨_, _, rfl, by decide, by decide, by decide⟩
theorem sign_alone {p : List UInt8} (h : p ∈ signsL) : signOf p = some p ∧ ∀ r, signOf (p ++ 32 :: r) = some p := by
  simp only [signsL, List.mem_cons, List.not_mem_nil, or_false] at h
  rcases h with rfl | rfl | rfl | rfl | rfl | rfl | rfl | rfl | rfl | rfl | rfl | rfl | rfl | rfl <;> exact ⟨rfl, fun r => rfl⟩
/-- a token's text is read as that token, alone and ahead of a blank. -/
structure Tokd (kw : List UInt8 → Nat) (q : Nat) (t : List UInt8) : Prop where
  ne : t ≠ []
  head : ∀ c r, t = c :: r → blB c = false ∧ perB c = false
  alone : tokOf kw t = some (q, t)
  more : ∀ r, tokOf kw (t ++ 32 :: r) = some (q, t)
theorem takeWhile_all {p : UInt8 → Bool} : ∀ {l : List UInt8}, (∀ x ∈ l, p x = true) → l.takeWhile p = l
  | [], _ => rfl
  | c :: r, h => by rw [List.takeWhile_cons, if_pos (h c (by simp)), takeWhile_all fun x hx => h x (by simp [hx])]
theorem takeWhile_more {p : UInt8 → Bool} {c : UInt8} (hc : p c = false) {r : List UInt8} : ∀ {l : List UInt8}, (∀ x ∈ l, p x = true) → (l ++ c :: r).takeWhile p = l
  | [], _ => by simp [hc]
  | d :: l, h => by rw [List.cons_append, List.takeWhile_cons, if_pos (h d (by simp)), takeWhile_more hc fun x hx => h x (by simp [hx])]
theorem mem_takeWhile {p : UInt8 → Bool} : ∀ {l : List UInt8} {x : UInt8}, x ∈ l.takeWhile p → p x = true
  | c :: l, x, h => by
    rw [List.takeWhile_cons] at h
    split at h
    · rcases List.mem_cons.1 h with rfl | h
      · assumption
      · exact mem_takeWhile h
    · cases h
theorem tok_good {l : List UInt8} {q : Nat} {t : List UInt8} (h : tokOf kw l = some (q, t)) : Tokd kw q t := by
  have hne := (tok_text h).1
  unfold tokOf at h
  split at h
  · rw [Option.map_eq_some_iff] at h
    obtain ⟨p, hp, h2⟩ := h
    injection h2 with h1 h2
    subst h1
    subst h2
    obtain ⟨c, r, rfl, hw, hb, hpc⟩ := sign_head (sign_mem hp).1
    obtain ⟨a1, a2⟩ := sign_alone (sign_mem hp).1
    refine ⟨hne, fun c' r' e => by cases e; exact ⟨hb, hpc⟩, ?_, fun r' => ?_⟩
    · unfold tokOf
      rw [if_pos (by simp [hw]), a1]; rfl
    · unfold tokOf
      rw [if_pos (by simp [hw]), a2]; rfl
  · rename_i hn
    split at h
    · cases h
    · rename_i hk
      injection h with h
      injection h with h1 h2
      have hall : ∀ x ∈ t, wb x = true := fun x hx => by rw [← h2] at hx; exact mem_takeWhile hx
      rw [h2] at hk h1 hn
      have e1 := takeWhile_all hall
      have e2 : ∀ r, (t ++ 32 :: r).takeWhile wb = t := fun r => takeWhile_more (by decide) hall
      refine ⟨hne, fun c r e => wb_not (hall c (by rw [e]; simp)), ?_, fun r => ?_⟩
      · unfold tokOf
        rw [e1, if_neg hn, if_neg hk, h1]
      · unfold tokOf
        rw [e2 r, if_neg hn, if_neg hk, h1]
end
end Go.Proofs.YtikohamfnnlhcaaGreatDoor

namespace Go.Proofs.YtikohamfnnlhcaaGreatDoor
open Go.RowKit

/-- a byte that a name may go on with. -/
def okc (c : UInt8) : Bool := isLet c || isDig c || ((c.toNat : Int) == 95)
def okFrom : List UInt8 → Bool
  | [] => true
  | c :: r => isLet c && r.all okc
/-- 'is a name', of a text's bytes. -/
def isName (l : List UInt8) : Bool := !l.isEmpty && decide (l.length ≤ 32) && okFrom l

theorem take_snoc (s : ByteArray) (k : Nat) (h : k < s.size) : s.data.toList.take (k + 1) = s.data.toList.take k ++ [s[k]] := by
  rw [List.take_succ_eq_append_getElem (by simpa using h)]; rfl
theorem okFrom_snoc (l : List UInt8) (c : UInt8) : okFrom (l ++ [c]) = (okFrom l && if l.isEmpty then isLet c else okc c) := by
  cases l with
  | nil => simp [okFrom]
  | cons a r => simp [okFrom, Bool.and_assoc]
theorem okFrom_append {l m : List UInt8} (h : okFrom l = false) : okFrom (l ++ m) = false := by
  cases l with
  | nil => simp [okFrom] at h
  | cons a r =>
    simp only [okFrom, List.cons_append, List.all_append] at h ⊢
    cases h1 : isLet a with
    | false => simp
    | true => rw [h1] at h; simp only [Bool.true_and] at h ⊢; rw [h]; simp
theorem okFrom_take {l : List UInt8} {k : Nat} (h : okFrom (l.take k) = false) : okFrom l = false := by
  have := okFrom_append (m := l.drop k) h
  rwa [List.take_append_drop] at this
theorem take_empty (s : ByteArray) (k : Nat) (h : k ≤ s.size) : (s.data.toList.take k).isEmpty = decide (k = 0) := by
  cases hk : decide (k = 0) with
  | true => simp at hk; subst hk; simp
  | false =>
    simp at hk
    have : (s.data.toList.take k).length = k := by rw [List.length_take]; simp only [Array.length_toList, ByteArray.size_data]; omega
    cases hl : s.data.toList.take k with
    | nil => rw [hl] at this; simp at this; omega
    | cons _ _ => rfl
/-- one byte more, first or later. -/
theorem ok_first (s : ByteArray) (h : 0 < s.size) : okFrom (s.data.toList.take 1) = isLet s[0] := by
  have e := take_snoc s 0 h
  rw [Nat.zero_add] at e
  rw [e, okFrom_snoc]; simp [okFrom]
theorem ok_later (s : ByteArray) (k : Nat) (h : k < s.size) (h0 : 1 ≤ k) (hp : okFrom (s.data.toList.take k) = true) : okFrom (s.data.toList.take (k + 1)) = okc s[k] := by
  rw [take_snoc s k h, okFrom_snoc, hp, take_empty s k (by omega)]
  have : decide (k = 0) = false := by simp; omega
  rw [this]; simp
theorem name_bad {s : ByteArray} {k : Nat} (h : okFrom (s.data.toList.take k) = false) : isName s.data.toList = false := by
  simp [isName, okFrom_take h]
theorem name_all {s : ByteArray} {k : Nat} (hk : s.size ≤ k) (h : okFrom (s.data.toList.take k) = true) : isName s.data.toList = (decide (1 ≤ (s.size : Int)) && decide ((s.size : Int) ≤ 32)) := by
  rw [List.take_of_length_le (by simpa using hk)] at h
  have h1 : (!s.data.toList.isEmpty) = decide (1 ≤ (s.size : Int)) := by
    have hz : s.size = s.data.toList.length := by simp
    cases hl : s.data.toList with
    | nil => rw [hl] at hz; simp at hz; simp [hz]
    | cons a r => rw [hl] at hz; simp at hz; simp [hz]; omega
  have h2 : decide (s.data.toList.length ≤ 32) = decide ((s.size : Int) ≤ 32) := by
    have hz : s.data.toList.length = s.size := by simp
    rw [hz]; exact decide_eq_decide.2 (by omega)
  simp only [isName, h, h1, h2, Bool.and_true]

theorem letter_is (c : UInt8) (b : Bool) (h : isLet c = b) (w : World) : Calls Tryz.prog 163 #[.int .u8 c.toNat] w fun e w' => e = .returned (.bool b) ∧ w = w' := by
  subst h; exact letter_any c w
theorem digit_is (c : UInt8) (b : Bool) (h : isDig c = b) (w : World) : Calls Tryz.prog 164 #[.int .u8 c.toNat] w fun e w' => e = .returned (.bool b) ∧ w = w' := by
  subst h; exact digit_any c w

theorem ret_bool {a b : Bool} (h : a = b) : Ending.returned (.bool a) = Ending.returned (.bool b) := by rw [h]

theorem neq95_true {c : UInt8} (h : ((c.toNat : Int) == 95) = false) : ((c.toNat : Int) != 95) = true := by simp [bne, h]
theorem neq95_false {c : UInt8} (h : ((c.toNat : Int) == 95) = true) : ((c.toNat : Int) != 95) = false := by simp [bne, h]
theorem okc_letter {c : UInt8} (h : isLet c = true) : okc c = true := by simp [okc, h]
theorem okc_digit {c : UInt8} (h : isDig c = true) : okc c = true := by simp [okc, h]
theorem okc_under {c : UInt8} (h : ((c.toNat : Int) == 95) = true) : okc c = true := by simp only [okc, h, Bool.or_true]
theorem okc_none {c : UInt8} (h : isLet c = false) (h2 : isDig c = false) (h3 : ((c.toNat : Int) == 95) = false) : okc c = false := by simp only [okc, h, h2, h3]; rfl

theorem name_long {s : ByteArray} (h : ¬ (s.size : Int) ≤ 32) : isName s.data.toList = false := by
  have : decide (s.data.toList.length ≤ 32) = false := by simp; omega
  simp only [isName, this]; simp
theorem name_none {s : ByteArray} (h : ¬ 0 < s.size) : isName s.data.toList = false := by
  have hz : s.size = s.data.toList.length := by simp
  have : s.data.toList = [] := List.eq_nil_of_length_eq_zero (by omega)
  rw [this]; rfl

set_option maxHeartbeats 1000000 in
theorem Name_any (s : ByteArray) (w : World) (hs : s.size ≤ maxLen) :
    Calls Tryz.prog 150 #[.string s] w fun e w' => e = .returned (.bool (isName s.data.toList)) ∧ w = w' := by
  unfold maxLen at hs
  have hz : s.toList.length = s.size := by rw [Lib.toList_data]; simp
  by_cases he : 0 < s.size
  · have hem : s.toList.isEmpty = false := by
      cases hl2 : s.toList with
      | nil => rw [hl2] at hz; simp at hz; omega
      | cons _ _ => rfl
    clear hz
    by_cases hl : (s.size : Int) ≤ 32
    · cases hf : isLet s[0] with
      | true =>
        have k1 := ok_first s he
        rw [hf] at k1
        have K1 := Lib.hid k1
        have hF := Lib.hid hf
        clear k1 hf
        go_enter Tryz.func150, Tryz.ntmps150
        go_wp2_with (go_at_call 163; refine (letter_is _ _ hF.out _).mono ?_; rintro e w' ⟨rfl, rfl⟩)
        go_loop [3] (fun i => ∃ k : Nat, 1 ≤ k ∧ k ≤ s.size ∧ Hid (okFrom (s.data.toList.take k) = true) ∧ i = .int .i64 k) (fun i => s.size - (intOf i).toNat)
        case atStart => exact ⟨1, Nat.le_refl _, he, K1, rfl⟩
        case round =>
          obtain ⟨k, hk1, hk, HK, rfl⟩ := hrel
          by_cases hlt : k < s.size
          · have HS := Lib.hid (ok_later s k hlt hk1 HK.out)
            cases h1 : isLet s[k] with
            | true =>
              have H1 := Lib.hid h1
              clear h1
              go_wp2_with (first | (go_at_call 163; refine (letter_is _ _ H1.out _).mono ?_; rintro e w' ⟨rfl, rfl⟩))
              go_round
              case rel => exact ⟨k + 1, by omega, by omega, HS.out.trans (okc_letter H1.out), by go_num⟩
              case measure => simp [intOf]; omega
            | false =>
              have H1 := Lib.hid h1
              clear h1
              cases h2 : isDig s[k] with
              | true =>
                have H2 := Lib.hid h2
                clear h2
                go_wp2_with (first | (go_at_call 163; refine (letter_is _ _ H1.out _).mono ?_; rintro e w' ⟨rfl, rfl⟩) | (go_at_call 164; refine (digit_is _ _ H2.out _).mono ?_; rintro e w' ⟨rfl, rfl⟩))
                go_round
                case rel => exact ⟨k + 1, by omega, by omega, HS.out.trans (okc_digit H2.out), by go_num⟩
                case measure => simp [intOf]; omega
              | false =>
                have H2 := Lib.hid h2
                clear h2
                cases h3 : ((s[k].toNat : Int) == 95) with
                | true =>
                  have H3 := Lib.hid h3
                  have h3' := neq95_false h3
                  go_wp2_with (first | (go_at_call 163; refine (letter_is _ _ H1.out _).mono ?_; rintro e w' ⟨rfl, rfl⟩) | (go_at_call 164; refine (digit_is _ _ H2.out _).mono ?_; rintro e w' ⟨rfl, rfl⟩))
                  go_round
                  case rel => exact ⟨k + 1, by omega, by omega, HS.out.trans (okc_under H3.out), by go_num⟩
                  case measure => simp [intOf]; omega
                | false =>
                  have H3 := Lib.hid h3
                  have h3' := neq95_true h3
                  go_wp2_with (first | (go_at_call 163; refine (letter_is _ _ H1.out _).mono ?_; rintro e w' ⟨rfl, rfl⟩) | (go_at_call 164; refine (digit_is _ _ H2.out _).mono ?_; rintro e w' ⟨rfl, rfl⟩))
                  go_ret
                  exact ⟨ret_bool (name_bad (HS.out.trans (okc_none H1.out H2.out H3.out))).symm, rfl⟩
          · go_wp2
            go_ret
            exact ⟨ret_bool (by rw [name_all (by omega) HK.out]; simp; omega), rfl⟩
      | false =>
        have k1 := ok_first s he
        rw [hf] at k1
        have K1 := Lib.hid (name_bad k1)
        have hF := Lib.hid hf
        clear k1 hf
        go_enter Tryz.func150, Tryz.ntmps150
        go_wp2_with (go_at_call 163; refine (letter_is _ _ hF.out _).mono ?_; rintro e w' ⟨rfl, rfl⟩)
        go_ret
        exact ⟨ret_bool K1.out.symm, rfl⟩
    · have K1 := Lib.hid (name_long hl)
      go_enter Tryz.func150, Tryz.ntmps150
      go_wp2
      go_ret
      exact ⟨ret_bool K1.out.symm, rfl⟩
  · have K1 := Lib.hid (name_none he)
    have hem : s.toList.isEmpty = true := by
      cases hl2 : s.toList with
      | nil => rfl
      | cons _ _ => rw [hl2] at hz; simp at hz; omega
    clear hz
    go_enter Tryz.func150, Tryz.ntmps150
    go_wp2
    go_ret
    exact ⟨ret_bool K1.out.symm, rfl⟩

theorem ok_next (s : ByteArray) (k : Nat) (h : k < s.size) (hp : okFrom (s.data.toList.take k) = true) : okFrom (s.data.toList.take (k + 1)) = if ((k : Int) == 0) = true then isLet s[k] else okc s[k] := by
  rw [take_snoc s k h, okFrom_snoc, hp, take_empty s k (by omega)]
  by_cases h0 : k = 0
  · subst h0; simp
  · have h1 : ((k : Int) == 0) = false := by simp; omega
    have : decide (k = 0) = false := by simp; omega
    rw [this, h1]; simp
theorem isLet_mk {c : UInt8} (h1 : 97 ≤ (c.toNat : Int)) (h2 : (c.toNat : Int) ≤ 122) : isLet c = true := by simp only [isLet, h1, h2]; rfl
theorem isLet_lo {c : UInt8} (h1 : ¬ 97 ≤ (c.toNat : Int)) : isLet c = false := by simp only [isLet, h1]; rfl
theorem isLet_hi {c : UInt8} (h1 : ¬ (c.toNat : Int) ≤ 122) : isLet c = false := by simp only [isLet, h1, decide_false, Bool.and_false]
theorem isDig_mk {c : UInt8} (h1 : 48 ≤ (c.toNat : Int)) (h2 : (c.toNat : Int) ≤ 57) : isDig c = true := by simp only [isDig, h1, h2]; rfl
theorem isDig_lo {c : UInt8} (h1 : ¬ 48 ≤ (c.toNat : Int)) : isDig c = false := by simp only [isDig, h1]; rfl
theorem isDig_hi {c : UInt8} (h1 : ¬ (c.toNat : Int) ≤ 57) : isDig c = false := by simp only [isDig, h1, decide_false, Bool.and_false]
theorem okc_iff_letter {k : Nat} {c : UInt8} (h : isLet c = true) : (if ((k : Int) == 0) = true then isLet c else okc c) = true := by rw [okc_letter h, h]; simp
theorem okc_iff_zero {k : Nat} {c : UInt8} (hk : ((k : Int) == 0) = true) (h : isLet c = false) : (if ((k : Int) == 0) = true then isLet c else okc c) = false := by rw [hk, h]; simp
theorem okc_iff_more {k : Nat} {c : UInt8} {b : Bool} (hk : ((k : Int) == 0) = false) (h : okc c = b) : (if ((k : Int) == 0) = true then isLet c else okc c) = b := by rw [hk, h]; simp

set_option maxHeartbeats 2000000 in
theorem refName_any (s : ByteArray) (w : World) (hs : s.size ≤ maxLen) :
    Calls Tryz.prog 133 #[.string s] w fun e w' => e = .returned (.bool (isName s.data.toList)) ∧ w = w' := by
  unfold maxLen at hs
  go_enter Tryz.func133, Tryz.ntmps133
  go_wp2
  go_loop [3] (fun i => ∃ k : Nat, k ≤ s.size ∧ Hid (okFrom (s.data.toList.take k) = true) ∧ i = .int .i64 k) (fun i => s.size - (intOf i).toNat)
  case atStart => exact ⟨0, Nat.zero_le _, rfl, rfl⟩
  case round =>
    obtain ⟨k, hk, HK, rfl⟩ := hrel
    by_cases hlt : k < s.size
    · have HS := Lib.hid (ok_next s k hlt HK.out)
      by_cases h1 : 97 ≤ (s[k].toNat : Int)
      · by_cases h2 : (s[k].toNat : Int) ≤ 122
        · have HL := Lib.hid (okc_iff_letter (k := k) (isLet_mk h1 h2))
          have d1 : decide (97 ≤ (s[k].toNat : Int)) = true := by simpa using h1
          have d2 : decide ((s[k].toNat : Int) ≤ 122) = true := by simpa using h2
          go_wp2
          go_round
          case rel => exact ⟨k + 1, by omega, HS.out.trans (HL.out), by go_num⟩
          case measure => simp [intOf]; omega
        · have HL := Lib.hid (isLet_hi h2)
          have d2 : decide ((s[k].toNat : Int) ≤ 122) = false := by simpa using h2
          have d4 : decide ((s[k].toNat : Int) ≤ 57) = false := by simp; omega
          have d5 : ((s[k].toNat : Int) != 95) = true := by simp; omega
          have HO := Lib.hid (okc_none (isLet_hi h2) (isDig_hi (by omega)) (by simp; omega))
          cases hk0 : ((k : Int) == 0) with
          | true =>
            have HZ := Lib.hid (okc_iff_zero hk0 HL.out)
            go_wp2
            go_ret
            exact ⟨ret_bool (name_bad (HS.out.trans (HZ.out))).symm, rfl⟩
          | false =>
            have HZ := Lib.hid (okc_iff_more hk0 HO.out)
            go_wp2
            go_ret
            exact ⟨ret_bool (name_bad (HS.out.trans (HZ.out))).symm, rfl⟩
      · have HL := Lib.hid (isLet_lo h1)
        have d1 : decide (97 ≤ (s[k].toNat : Int)) = false := by simpa using h1
        cases hk0 : ((k : Int) == 0) with
        | true =>
          have HZ := Lib.hid (okc_iff_zero hk0 HL.out)
          go_wp2
          go_ret
          exact ⟨ret_bool (name_bad (HS.out.trans (HZ.out))).symm, rfl⟩
        | false =>
          by_cases h3 : 48 ≤ (s[k].toNat : Int)
          · by_cases h4 : (s[k].toNat : Int) ≤ 57
            · have HZ := Lib.hid (okc_iff_more hk0 (okc_digit (isDig_mk h3 h4)))
              have d3 : decide (48 ≤ (s[k].toNat : Int)) = true := by simpa using h3
              have d4 : decide ((s[k].toNat : Int) ≤ 57) = true := by simpa using h4
              go_wp2
              go_round
              case rel => exact ⟨k + 1, by omega, HS.out.trans (HZ.out), by go_num⟩
              case measure => simp [intOf]; omega
            · have d3 : decide (48 ≤ (s[k].toNat : Int)) = true := by simpa using h3
              have d4 : decide ((s[k].toNat : Int) ≤ 57) = false := by simpa using h4
              cases h5 : ((s[k].toNat : Int) == 95) with
              | true =>
                have HZ := Lib.hid (okc_iff_more hk0 (okc_under h5))
                have d5 := neq95_false h5
                go_wp2
                go_round
                case rel => exact ⟨k + 1, by omega, HS.out.trans (HZ.out), by go_num⟩
                case measure => simp [intOf]; omega
              | false =>
                have HZ := Lib.hid (okc_iff_more hk0 (okc_none HL.out (isDig_hi h4) h5))
                have d5 := neq95_true h5
                go_wp2
                go_ret
                exact ⟨ret_bool (name_bad (HS.out.trans (HZ.out))).symm, rfl⟩
          · have d3 : decide (48 ≤ (s[k].toNat : Int)) = false := by simpa using h3
            have d5 : ((s[k].toNat : Int) != 95) = true := by simp; omega
            have HZ := Lib.hid (okc_iff_more hk0 (okc_none HL.out (isDig_lo h3) (by simp; omega)))
            go_wp2
            go_ret
            exact ⟨ret_bool (name_bad (HS.out.trans (HZ.out))).symm, rfl⟩
    · have HN := Lib.hid (name_all (Nat.le_of_not_lt hlt) HK.out)
      by_cases h1 : 1 ≤ (s.size : Int)
      · have d1 : decide (1 ≤ (s.size : Int)) = true := by simpa using h1
        go_wp2
        go_ret
        exact ⟨ret_bool (by rw [HN.out, d1]; rfl), rfl⟩
      · have d1 : decide (1 ≤ (s.size : Int)) = false := by simpa using h1
        go_wp2
        go_ret
        exact ⟨ret_bool (by rw [HN.out, d1]; rfl), rfl⟩

end Go.Proofs.YtikohamfnnlhcaaGreatDoor

namespace Go.Proofs.YtikohamfnnlhcaaGreatDoor
open Go.RowKit

/-- an error of package api by its number, as an interface's value. -/
abbrev eno (n : Int) : Value := .iface 45 (.int .i64 n)
/-- the empty text. -/
abbrev noText : ByteArray := ⟨#[]⟩

theorem inRange_is (n : Int) (b : Bool) (h : inRng n = b) (w : World) : Calls Tryz.prog 149 #[.int .i64 n] w fun e w' => e = .returned (.bool b) ∧ w = w' := by
  subst h; exact inRange_any n w
theorem Name_is (s : ByteArray) (b : Bool) (h : isName s.data.toList = b) (hs : s.size ≤ maxLen) (w : World) : Calls Tryz.prog 150 #[.string s] w fun e w' => e = .returned (.bool b) ∧ w = w' := by
  subst h; exact Name_any s w hs
theorem refName_is (s : ByteArray) (b : Bool) (h : isName s.data.toList = b) (hs : s.size ≤ maxLen) (w : World) : Calls Tryz.prog 133 #[.string s] w fun e w' => e = .returned (.bool b) ∧ w = w' := by
  subst h; exact refName_any s w hs

set_option maxHeartbeats 400000 in
theorem Of_ok (n : Int) (w : World) (h : inRng n = true) :
    Calls Tryz.prog 197 #[.int .i64 n] w fun e w' => e = .returned (.tuple #[vv 1 n noText, .nilIface]) ∧ Below w.heap.size w w' := by
  have H := Lib.hid h
  clear h
  go_enter Tryz.func197, Tryz.ntmps197
  go_wp2_with (go_at_call 149; refine (inRange_is _ _ H.out _).mono ?_; rintro e w' ⟨rfl, rfl⟩)
  refine bodyPost_ret (v := .tuple #[vv 1 n noText, .nilIface]) (by simp [results, Tryz.results197, go_sem]) rfl ⟨rfl, ?_⟩
  exact (Below.refl _ _).alloc (Nat.le_refl _) _
set_option maxHeartbeats 400000 in
theorem Of_no (n : Int) (w : World) (h : inRng n = false) :
    Calls Tryz.prog 197 #[.int .i64 n] w fun e w' => e = .returned (.tuple #[vv 0 0 noText, eno 10]) ∧ Below w.heap.size w w' := by
  have H := Lib.hid h
  clear h
  go_enter Tryz.func197, Tryz.ntmps197
  go_wp2_with (go_at_call 149; refine (inRange_is _ _ H.out _).mono ?_; rintro e w' ⟨rfl, rfl⟩)
  refine bodyPost_ret (v := .tuple #[vv 0 0 noText, eno 10]) (by simp [results, Tryz.results197, go_sem]) rfl ⟨rfl, ?_⟩
  exact (Below.refl _ _).alloc (Nat.le_refl _) _

set_option maxHeartbeats 400000 in
theorem Symbol_no (s : ByteArray) (w : World) (hs : s.size ≤ maxLen) (h : isName s.data.toList = false) :
    Calls Tryz.prog 196 #[.string s] w fun e w' => e = .returned (.tuple #[vv 0 0 noText, eno 5]) ∧ Below w.heap.size w w' := by
  have H := Lib.hid h
  clear h
  go_enter Tryz.func196, Tryz.ntmps196
  go_wp2_with (go_at_call 150; refine (Name_is _ _ H.out hs _).mono ?_; rintro e w' ⟨rfl, rfl⟩)
  refine bodyPost_ret (v := .tuple #[vv 0 0 noText, eno 5]) (by simp [results, Tryz.results196, go_sem]) rfl ⟨rfl, ?_⟩
  exact (Below.refl _ _).alloc (Nat.le_refl _) _

theorem assert_eno (m : Int) (w : World) : (Instr.typeAssert (eno m) 41 45 true).run Tryz.prog w = .ok (.tuple #[.int .i64 m, .bool true]) w := by kernel_rfl
set_option maxHeartbeats 400000 in
theorem Is_eno (m n : Int) (w : World) (hm : (m != 0) = true) (b : Bool) (h : (m == n) = b) :
    Calls Tryz.prog 13 #[eno m, .int .i64 n] w fun e w' => e = .returned (.bool b) ∧ w = w' := by
  have hta := assert_eno m
  go_enter Tryz.func13, Tryz.ntmps13
  go_wp2
  go_ret
  exact ⟨rfl, rfl⟩
/-- 'is a right value', as a Bool. -/
def isRight (k n : Int) (s : ByteArray) : Bool := if k = 1 then s.data.toList.isEmpty && inRng n else if k = 2 then (n == 0) && isName s.data.toList else false

theorem empty_of {s : ByteArray} (h : s.size = 0) : s = noText := by
  have hz : s.size = s.data.toList.length := by simp
  have : s.data.toList = [] := List.eq_nil_of_length_eq_zero (by omega)
  cases s with
  | mk d => cases d with
    | mk l => simp at this; subst this; rfl
theorem empty_not {s : ByteArray} (h : ¬ s.size = 0) : s.data.toList.isEmpty = false ∧ s.toList.isEmpty = false := by
  have hz : s.size = s.data.toList.length := by simp
  have : s.data.toList.isEmpty = false := by
    cases hl : s.data.toList with
    | nil => rw [hl] at hz; exact absurd hz h
    | cons _ _ => rfl
  exact ⟨this, by rw [Lib.toList_data]; exact this⟩

set_option maxHeartbeats 1000000 in
theorem Right_any (k n : Int) (s : ByteArray) (w : World) (hs : s.size ≤ maxLen) :
    Calls Tryz.prog 130 #[vv k n s] w fun e w' => e = .returned (.bool (isRight k n s)) ∧ Below w.heap.size w w' := by
  by_cases h1 : k = 1
  · subst h1
    by_cases he : s.size = 0
    · obtain rfl := empty_of he
      clear he
      have HR := Lib.hid (show isRight 1 n noText = inRng n by simp [isRight])
      go_enter Tryz.func130, Tryz.ntmps130
      go_wp2_with (go_at_call 149; refine (inRange_any _ _).mono ?_; rintro e w' ⟨rfl, rfl⟩)
      go_ret
      exact ⟨ret_bool HR.out.symm, (Below.refl _ _).alloc (Nat.le_refl _) _⟩
    · obtain ⟨e1, e2⟩ := empty_not he
      have HR := Lib.hid (show isRight 1 n s = false by simp only [isRight, if_pos, e1, Bool.false_and])
      clear e1
      go_enter Tryz.func130, Tryz.ntmps130
      go_wp2
      go_ret
      exact ⟨ret_bool HR.out.symm, (Below.refl _ _).alloc (Nat.le_refl _) _⟩
  · by_cases h2 : k = 2
    · subst h2
      cases hn : (n == 0) with
      | true =>
        have HR := Lib.hid (show isRight 2 n s = isName s.data.toList by simp only [isRight, hn]; rfl)
        go_enter Tryz.func130, Tryz.ntmps130
        go_wp2_with (go_at_call 150; refine (Name_any _ _ hs).mono ?_; rintro e w' ⟨rfl, rfl⟩)
        go_ret
        exact ⟨ret_bool HR.out.symm, (Below.refl _ _).alloc (Nat.le_refl _) _⟩
      | false =>
        have HR := Lib.hid (show isRight 2 n s = false by simp only [isRight, hn]; rfl)
        go_enter Tryz.func130, Tryz.ntmps130
        go_wp2
        go_ret
        exact ⟨ret_bool HR.out.symm, (Below.refl _ _).alloc (Nat.le_refl _) _⟩
    · have HR := Lib.hid (show isRight k n s = false by simp only [isRight, h1, h2]; rfl)
      have b1 : (k == 1) = false := by simpa using h1
      have b2 : (k == 2) = false := by simpa using h2
      clear h1 h2
      go_enter Tryz.func130, Tryz.ntmps130
      go_wp2
      go_ret
      exact ⟨ret_bool HR.out.symm, (Below.refl _ _).alloc (Nat.le_refl _) _⟩

set_option maxHeartbeats 1000000 in
theorem refRight_any (k n : Int) (s : ByteArray) (w : World) (hs : s.size ≤ maxLen) :
    Calls Tryz.prog 112 #[vv k n s] w fun e w' => e = .returned (.bool (isRight k n s)) ∧ Below w.heap.size w w' := by
  by_cases h1 : k = 1
  · subst h1
    by_cases he : s.size = 0
    · obtain rfl := empty_of he
      clear he
      by_cases a1 : -2147483647 ≤ n
      · by_cases a2 : n ≤ 2147483647
        · have HR := Lib.hid (show isRight 1 n noText = true by simp [isRight, inRng, a1, a2])
          have d1 : decide (-2147483647 ≤ n) = true := by simpa using a1
          have d2 : decide (n ≤ 2147483647) = true := by simpa using a2
          go_enter Tryz.func112, Tryz.ntmps112
          go_wp2
          go_ret
          exact ⟨ret_bool HR.out.symm, (Below.refl _ _).alloc (Nat.le_refl _) _⟩
        · have HR := Lib.hid (show isRight 1 n noText = false by simp [isRight, inRng, a2])
          have d1 : decide (-2147483647 ≤ n) = true := by simpa using a1
          have d2 : decide (n ≤ 2147483647) = false := by simpa using a2
          go_enter Tryz.func112, Tryz.ntmps112
          go_wp2
          go_ret
          exact ⟨ret_bool HR.out.symm, (Below.refl _ _).alloc (Nat.le_refl _) _⟩
      · have HR := Lib.hid (show isRight 1 n noText = false by simp [isRight, inRng, a1])
        have d1 : decide (-2147483647 ≤ n) = false := by simpa using a1
        go_enter Tryz.func112, Tryz.ntmps112
        go_wp2
        go_ret
        exact ⟨ret_bool HR.out.symm, (Below.refl _ _).alloc (Nat.le_refl _) _⟩
    · obtain ⟨e1, _⟩ := empty_not he
      have HR := Lib.hid (show isRight 1 n s = false by simp only [isRight, if_pos, e1, Bool.false_and])
      have b0 : ((s.size : Int) == 0) = false := beq_eq_false_iff_ne.2 (by omega)
      clear e1 he
      go_enter Tryz.func112, Tryz.ntmps112
      go_wp2
      go_ret
      exact ⟨ret_bool HR.out.symm, (Below.refl _ _).alloc (Nat.le_refl _) _⟩
  · by_cases h2 : k = 2
    · subst h2
      cases hn : (n == 0) with
      | true =>
        have HR := Lib.hid (show isRight 2 n s = isName s.data.toList by simp only [isRight, hn]; rfl)
        go_enter Tryz.func112, Tryz.ntmps112
        go_wp2_with (go_at_call 133; refine (refName_any _ _ hs).mono ?_; rintro e w' ⟨rfl, rfl⟩)
        go_ret
        exact ⟨ret_bool HR.out.symm, (Below.refl _ _).alloc (Nat.le_refl _) _⟩
      | false =>
        have HR := Lib.hid (show isRight 2 n s = false by simp only [isRight, hn]; rfl)
        go_enter Tryz.func112, Tryz.ntmps112
        go_wp2
        go_ret
        exact ⟨ret_bool HR.out.symm, (Below.refl _ _).alloc (Nat.le_refl _) _⟩
    · have HR := Lib.hid (show isRight k n s = false by simp only [isRight, h1, h2]; rfl)
      have b1 : (k == 1) = false := by simpa using h1
      have b2 : (k == 2) = false := by simpa using h2
      clear h1 h2
      go_enter Tryz.func112, Tryz.ntmps112
      go_wp2
      go_ret
      exact ⟨ret_bool HR.out.symm, (Below.refl _ _).alloc (Nat.le_refl _) _⟩

end Go.Proofs.YtikohamfnnlhcaaGreatDoor

namespace Go.Proofs.YtikohamfnnlhcaaGreatDoor
open Go.RowKit

theorem gPow : Tryz.prog.globalNamed "internal/strconv.uint64pow10" = some 8 := by kernel_rfl
/-- the library's table is as its initialiser lays it. -/
def Tab (w : World) : Prop := Lib.TabIs Tryz.prog w "internal/strconv.uint64pow10" .u64 Lib.pow10Tab
theorem var_below {n : String} {g : Nat} {cs : Array Value} {w w' : World} (hg : Tryz.prog.globalNamed n = some g) (h : World.var? Tryz.prog w n = some cs) (hb : Below w.heap.size w w') : World.var? Tryz.prog w' n = some cs := by
  unfold World.var? at h ⊢
  rw [hg] at h ⊢
  simp only [Option.bind_some] at h ⊢
  have hlt : g < w.heap.size := by
    rcases Nat.lt_or_ge g w.heap.size with h' | h'
    · exact h'
    · rw [Array.getElem?_eq_none h'] at h; cases h
  rw [hb.block g hlt]
  exact h
theorem Tab.below {w w' : World} (h : Tab w) (hb : Below w.heap.size w w') : Tab w' := var_below gPow h hb

theorem bcell {w w1 : World} (hb : Below w.heap.size w w1) : (∀ b o, b < w.heap.size → w1.cell? ⟨b, o, none⟩ = w.cell? ⟨b, o, none⟩) ∧ (∀ b o, b < w.heap.size → w1.frozen? ⟨b, o, none⟩ = w.frozen? ⟨b, o, none⟩) :=
  ⟨fun b o h => hb.cell (p := ⟨b, o, none⟩) h, fun b o h => hb.frozen (p := ⟨b, o, none⟩) h⟩

/-- a box that holds a value. -/
def Box (w : World) (b : Nat) (k n : Int) (s : ByteArray) : Prop :=
  w.cell? ⟨b, 0, none⟩ = some (.int .i64 k) ∧ w.cell? ⟨b, 1, none⟩ = some (.int .i64 n) ∧ w.cell? ⟨b, 2, none⟩ = some (.string s) ∧ b < w.heap.size
theorem Box.new (w : World) (k n : Int) (s : ByteArray) : Box (w.alloc (.cells #[.int .i64 k, .int .i64 n, .string s] 56)) w.heap.size k n s := by
  refine ⟨?_, ?_, ?_, ?_⟩ <;> go_simp
theorem Box.below {w w' : World} {b : Nat} {k n : Int} {s : ByteArray} (h : Box w b k n s) (hb : Below w.heap.size w w') : Box w' b k n s :=
  ⟨(hb.cell (p := ⟨b, 0, none⟩) h.2.2.2).trans h.1, (hb.cell (p := ⟨b, 1, none⟩) h.2.2.2).trans h.2.1, (hb.cell (p := ⟨b, 2, none⟩) h.2.2.2).trans h.2.2.1, Nat.lt_of_lt_of_le h.2.2.2 hb.size⟩

theorem below_regrow (w : World) (q : Nat) (os : Array Obj) : Below w.heap.size w (Sort.grow (w.drewN q) os) :=
  ⟨rfl, rfl, rfl, by simp [Sort.grow], fun k hk => by
    show (w.heap ++ os)[k]? = _
    rw [Array.getElem?_append_left hk]⟩

theorem ret_str {a b : ByteArray} (h : a = b) : Ending.returned (.string a) = Ending.returned (.string b) := by rw [h]

/-- a text's bytes. -/
def itoaB (n : Int) : ByteArray := ⟨(Lib.itoa n).toArray⟩
/-- a value's text. -/
def textV (k n : Int) (s : ByteArray) : ByteArray := if isRight k n s = true then (if k = 1 then itoaB n else s) else noText

theorem Itoa_any (n : Int) (h : inRng n = true) (w : World) (hT : Tab w) :
    Calls Tryz.prog 132 #[.int .i64 n] w fun e w' => e = .returned (.string (itoaB n)) ∧ Below w.heap.size w w' := by
  obtain ⟨h1, h2⟩ := inRng_iff.1 h
  refine (Tryz.strconv_Itoa n (by omega) (by omega) w hT).mono fun e w' hh => ?_
  obtain ⟨he, q, os, hw⟩ := hh
  subst hw
  exact ⟨he, below_regrow _ _ _⟩

theorem Right_is (k n : Int) (s : ByteArray) (b : Bool) (h : isRight k n s = b) (hs : s.size ≤ maxLen) (w : World) :
    Calls Tryz.prog 130 #[vv k n s] w fun e w' => e = .returned (.bool b) ∧ Below w.heap.size w w' := by
  subst h; exact Right_any k n s w hs

theorem right_one {n : Int} {s : ByteArray} (h : isRight 1 n s = true) : inRng n = true ∧ s = noText := by
  simp only [isRight, if_pos, Bool.and_eq_true] at h
  refine ⟨h.2, ?_⟩
  cases s with
  | mk d => cases d with
    | mk l => cases l with
      | nil => rfl
      | cons a r => simp at h

set_option maxHeartbeats 1000000 in
theorem Text_any (k n : Int) (s : ByteArray) (w : World) (hs : s.size ≤ maxLen) (hT : Tab w) :
    Calls Tryz.prog 111 #[vv k n s] w fun e w' => e = .returned (.string (textV k n s)) ∧ Below w.heap.size w w' := by
  have HT := Lib.hid hT
  clear hT
  cases hr : isRight k n s with
  | false =>
    have HR := Lib.hid hr
    have HX := Lib.hid (show textV k n s = noText by simp only [textV, hr]; rfl)
    clear hr
    go_enter Tryz.func111, Tryz.ntmps111
    go_wp2_with fail
    refine (Right_is _ _ _ _ HR.out hs _).mono ?_
    rintro e w1 ⟨rfl, b1⟩
    go_wp2
    go_ret
    exact ⟨ret_str HX.out.symm, ((Below.refl _ _).alloc (Nat.le_refl _) _).trans (b1.mono (by simp))⟩
  | true =>
    have HR := Lib.hid hr
    by_cases hk : k = 1
    · subst hk
      obtain ⟨hn, rfl⟩ := right_one hr
      have HN := Lib.hid hn
      have HX := Lib.hid (show textV 1 n noText = itoaB n by simp only [textV, hr]; rfl)
      clear hr hn
      go_enter Tryz.func111, Tryz.ntmps111
      go_wp2_with fail
      refine (Right_is _ _ _ _ HR.out hs _).mono ?_
      rintro e w1 ⟨rfl, b1⟩
      obtain ⟨c1, f1⟩ := bcell b1
      have B1 := ((Below.refl w.heap.size w).alloc (Nat.le_refl _) _).trans (b1.mono (by simp))
      go_wp2_with fail
      refine (Itoa_any _ HN.out _ (HT.out.below B1)).mono ?_
      rintro e w2 ⟨rfl, b2⟩
      go_wp2
      go_ret
      exact ⟨ret_str HX.out.symm, B1.trans (b2.mono B1.size)⟩
    · have HX := Lib.hid (show textV k n s = s by simp only [textV, hr, hk]; rfl)
      have bk : (k == 1) = false := by simpa using hk
      clear hr hk
      go_enter Tryz.func111, Tryz.ntmps111
      go_wp2_with fail
      refine (Right_is _ _ _ _ HR.out hs _).mono ?_
      rintro e w1 ⟨rfl, b1⟩
      obtain ⟨c1, f1⟩ := bcell b1
      go_wp2
      go_ret
      exact ⟨ret_str HX.out.symm, ((Below.refl _ _).alloc (Nat.le_refl _) _).trans (b1.mono (by simp))⟩

theorem Text_is (k n : Int) (s t : ByteArray) (h : textV k n s = t) (hs : s.size ≤ maxLen) (w : World) (hT : Tab w) :
    Calls Tryz.prog 111 #[vv k n s] w fun e w' => e = .returned (.string t) ∧ Below w.heap.size w w' := by
  subst h; exact Text_any k n s w hs hT
end Go.Proofs.YtikohamfnnlhcaaGreatDoor

namespace Go.Proofs.YtikohamfnnlhcaaGreatDoor
open Go.RowKit

theorem u8_digit {k : Nat} (h : k < 10) : (UInt8.ofNat (48 + k)).toNat = 48 + k := by
  rw [UInt8.toNat_ofNat']; omega
theorem dec_digits (u : Nat) : ∀ c ∈ Lib.decDigits u, 48 ≤ c.toNat ∧ c.toNat ≤ 57 := by
  induction u using Nat.strongRecOn with
  | _ u ih =>
    intro c hc
    rw [Lib.decDigits] at hc
    split at hc
    · rename_i h
      simp only [List.mem_singleton] at hc
      subst hc
      rw [u8_digit h]; omega
    · rename_i h
      rcases List.mem_append.1 hc with hc | hc
      · exact ih (u / 10) (by omega) c hc
      · simp only [List.mem_singleton] at hc
        subst hc
        rw [u8_digit (by omega)]; omega
theorem dec_ne (u : Nat) : Lib.decDigits u ≠ [] := by
  rw [Lib.decDigits]
  split
  · simp
  · simp
theorem decFrom_append (l m : List UInt8) : ∀ a b : Nat, Lib.decFrom a l = some b → Lib.decFrom a (l ++ m) = Lib.decFrom b m := by
  induction l with
  | nil => intro a b h; simp [Lib.decFrom] at h; subst h; rfl
  | cons c r ih =>
    intro a b h
    simp only [Lib.decFrom, List.cons_append] at h ⊢
    split at h
    · rename_i d hc
      exact ih _ _ h
    · cases h
theorem digitVal_dec {k : Nat} (h : k < 10) : Lib.digitVal (UInt8.ofNat (48 + k)) = some k := by
  have e := u8_digit h
  unfold Lib.digitVal
  simp only [e]
  simp
  omega
theorem decFrom_dec (u : Nat) : Lib.decFrom 0 (Lib.decDigits u) = some u := by
  induction u using Nat.strongRecOn with
  | _ u ih =>
    rw [Lib.decDigits]
    split
    · rename_i h
      simp only [Lib.decFrom, digitVal_dec h]
      congr 1; omega
    · rename_i h
      rw [decFrom_append _ _ _ _ (ih (u / 10) (by omega))]
      have e := digitVal_dec (k := u % 10) (by omega)
      simp only [Lib.decFrom, e]
      congr 1; omega
theorem decNat_dec (u : Nat) : Lib.decNat (Lib.decDigits u) = some u := by
  unfold Lib.decNat
  have : (Lib.decDigits u).isEmpty = false := by
    cases h : Lib.decDigits u with
    | nil => exact absurd h (dec_ne u)
    | cons _ _ => rfl
  rw [this, decFrom_dec]; rfl
theorem nDigits_le : ∀ (k u : Nat), 1 ≤ k → u < 10 ^ k → Lib.nDigits u ≤ k
  | 0, _, h, _ => by omega
  | 1, u, _, h => by rw [Lib.nDigits_small (by simpa using h)]; omega
  | k + 2, u, _, h => by
    by_cases hu : u < 10
    · rw [Lib.nDigits_small hu]; omega
    · rw [Lib.nDigits_big hu]
      have := nDigits_le (k + 1) (u / 10) (by omega) (by rw [Nat.pow_succ] at h; omega)
      omega

theorem atoi_itoa (n : Int) : Lib.atoi (Lib.itoa n) = some n := by
  unfold Lib.itoa
  split
  · rename_i h
    have e : ((45 : UInt8) == 45) = true := rfl
    simp only [Lib.atoi, e, if_pos, decNat_dec, Option.map_some]
    congr 1; omega
  · rename_i h
    have hd := dec_digits n.toNat
    have he := decNat_dec n.toNat
    cases hl : Lib.decDigits n.toNat with
    | nil => exact absurd hl (dec_ne _)
    | cons b r =>
      rw [hl] at hd he
      have hb := hd b (by simp)
      have e1 : (b == 45) = false := by
        cases hx : b == 45 with
        | false => rfl
        | true => have := beq_iff_eq.1 hx; subst this; simp at hb
      have e2 : (b == 43) = false := by
        cases hx : b == 43 with
        | false => rfl
        | true => have := beq_iff_eq.1 hx; subst this; simp at hb
      simp only [Lib.atoi, e1, e2, he, Option.map_some]
      simp; omega
theorem itoa_len {n : Int} (h1 : -2147483647 ≤ n) (h2 : n ≤ 2147483647) : (Lib.itoa n).length ≤ 11 := by
  unfold Lib.itoa
  have hk : ∀ u : Nat, u ≤ 2147483647 → (Lib.decDigits u).length ≤ 10 := fun u hu => by
    rw [Lib.decDigits_length]; exact nDigits_le 10 u (by omega) (by omega)
  split
  · have := hk n.natAbs (by omega); simp; omega
  · have := hk n.toNat (by omega); omega
end Go.Proofs.YtikohamfnnlhcaaGreatDoor

namespace Go.Proofs.YtikohamfnnlhcaaGreatDoor
open Go.RowKit

def decB (u : Nat) : ByteArray := ⟨(Lib.decDigits u).toArray⟩
def negB (u : Nat) : ByteArray := ⟨(45 :: Lib.decDigits u).toArray⟩
theorem bytes_append (a b : List UInt8) : (⟨a.toArray⟩ : ByteArray) ++ ⟨b.toArray⟩ = ⟨(a ++ b).toArray⟩ := by
  apply ByteArray.ext
  simp
theorem dec_step {u : Nat} (h : 10 ≤ u) : Lib.decDigits u = Lib.decDigits (u / 10) ++ Lib.decDigits (u % 10) := by
  rw [Lib.decDigits, dif_neg (by omega), Lib.decDigits_one (i := u % 10) (by omega)]
theorem decB_step {n : Int} (h : 10 ≤ n) : decB (n / 10).toNat ++ decB (n % 10).toNat = decB n.toNat := by
  unfold decB
  rw [bytes_append]
  have e := dec_step (u := n.toNat) (by omega)
  rw [e]
  have e1 : (n / 10).toNat = n.toNat / 10 := by omega
  have e2 : (n % 10).toNat = n.toNat % 10 := by omega
  rw [e1, e2]
theorem negB_step {n : Int} (h : 10 ≤ n) : negB (n / 10).toNat ++ decB (n % 10).toNat = negB n.toNat := by
  unfold decB negB
  rw [bytes_append]
  have e := dec_step (u := n.toNat) (by omega)
  rw [e]
  have e1 : (n / 10).toNat = n.toNat / 10 := by omega
  have e2 : (n % 10).toNat = n.toNat % 10 := by omega
  rw [e1, e2]
  rfl
theorem negB_one (n : Int) : (⟨#[45]⟩ : ByteArray) ++ decB n.toNat = negB n.toNat := by
  unfold decB negB
  rw [show (⟨#[45]⟩ : ByteArray) = ⟨[(45 : UInt8)].toArray⟩ from rfl, bytes_append]
  rfl
theorem enc_digit {n : Int} (h0 : 0 ≤ n) (h1 : n < 10) : Utf8.encode (48 + n) = decB n.toNat := by
  have h : n = 0 ∨ n = 1 ∨ n = 2 ∨ n = 3 ∨ n = 4 ∨ n = 5 ∨ n = 6 ∨ n = 7 ∨ n = 8 ∨ n = 9 := by omega
  unfold decB
  rw [Lib.decDigits_one (by omega)]
  rcases h with rfl | rfl | rfl | rfl | rfl | rfl | rfl | rfl | rfl | rfl <;> rfl

set_option maxHeartbeats 1000000 in
theorem dig_one (n : Int) (w : World) (h0 : 0 ≤ n) (h1 : n < 10) :
    Calls Tryz.prog 114 #[.int .i64 n] w fun e w' => e = .returned (.string (decB n.toNat)) ∧ w = w' := by
  have HE := Lib.hid (enc_digit h0 h1)
  go_enter Tryz.func114, Tryz.ntmps114
  go_wp2
  go_ret
  exact ⟨ret_str HE.out, rfl⟩

set_option maxHeartbeats 1000000 in
theorem dig_more (n : Int) (w : World) (h0 : 10 ≤ n) (h1 : n ≤ 2147483647)
    (c1 : ∀ W, Calls Tryz.prog 114 #[.int .i64 (n / 10)] W fun e w' => e = .returned (.string (decB (n / 10).toNat)) ∧ W = w')
    (c2 : ∀ W, Calls Tryz.prog 114 #[.int .i64 (n % 10)] W fun e w' => e = .returned (.string (decB (n % 10).toNat)) ∧ W = w')
    (hz : (decB (n / 10).toNat).size + (decB (n % 10).toNat).size ≤ 100) :
    Calls Tryz.prog 114 #[.int .i64 n] w fun e w' => e = .returned (.string (decB n.toNat)) ∧ w = w' := by
  have C1 := Lib.hid c1
  have C2 := Lib.hid c2
  clear c1 c2
  have HE := Lib.hid (decB_step h0)
  have h3 : 0 ≤ n := by omega
  go_enter Tryz.func114, Tryz.ntmps114
  go_wp2_with fail
  refine (C1.out _).mono ?_
  rintro e w1 ⟨rfl, rfl⟩
  go_wp2_with fail
  refine (C2.out _).mono ?_
  rintro e w1 ⟨rfl, rfl⟩
  go_wp2
  go_ret
  exact ⟨ret_str HE.out, rfl⟩

set_option maxHeartbeats 1000000 in
theorem dig_neg1 (m : Int) (w : World) (h0 : 1 ≤ m) (h1 : m < 10) (hz : (decB m.toNat).size ≤ 100) :
    Calls Tryz.prog 114 #[.int .i64 (-m)] w fun e w' => e = .returned (.string (negB m.toNat)) ∧ w = w' := by
  have HE := Lib.hid (negB_one m)
  go_enter Tryz.func114, Tryz.ntmps114
  go_wp2_with fail
  refine (dig_one m _ (by omega) h1).mono ?_
  rintro e w1 ⟨rfl, rfl⟩
  go_wp2
  go_ret
  exact ⟨ret_str HE.out, rfl⟩

set_option maxHeartbeats 1000000 in
theorem dig_neg2 (m : Int) (w : World) (h0 : 10 ≤ m) (h1 : m ≤ 2147483647)
    (c1 : ∀ W, Calls Tryz.prog 114 #[.int .i64 (-(m / 10))] W fun e w' => e = .returned (.string (negB (m / 10).toNat)) ∧ W = w')
    (c2 : ∀ W, Calls Tryz.prog 114 #[.int .i64 (m % 10)] W fun e w' => e = .returned (.string (decB (m % 10).toNat)) ∧ W = w')
    (hz : (negB (m / 10).toNat).size + (decB (m % 10).toNat).size ≤ 100) :
    Calls Tryz.prog 114 #[.int .i64 (-m)] w fun e w' => e = .returned (.string (negB m.toNat)) ∧ w = w' := by
  have C1 := Lib.hid c1
  have C2 := Lib.hid c2
  clear c1 c2
  have HE := Lib.hid (negB_step h0)
  have ed : m.tdiv 10 = m / 10 := Int.tdiv_eq_ediv_of_nonneg (by omega)
  have e1 : wrap64 (-(m.tdiv 10)) = -(m / 10) := by rw [ed]; exact IntWalk.wrap64_in _ ⟨by omega, by omega⟩
  have E1 := Lib.hid e1
  clear ed e1
  go_enter Tryz.func114, Tryz.ntmps114
  go_wp2_with fail
  rw [E1.out]
  refine (C1.out _).mono ?_
  rintro e w1 ⟨rfl, rfl⟩
  go_wp2_with fail
  refine (C2.out _).mono ?_
  rintro e w1 ⟨rfl, rfl⟩
  go_wp2
  go_ret
  exact ⟨ret_str HE.out, rfl⟩

theorem decB_size {u : Nat} (h : u ≤ 2147483647) : (decB u).size ≤ 10 := by
  show (Lib.decDigits u).toArray.size ≤ 10
  have : (Lib.decDigits u).length ≤ 10 := by rw [Lib.decDigits_length]; exact nDigits_le 10 u (by omega) (by omega)
  simpa using this
theorem negB_size {u : Nat} (h : u ≤ 2147483647) : (negB u).size ≤ 11 := by
  show (45 :: Lib.decDigits u).toArray.size ≤ 11
  have : (Lib.decDigits u).length ≤ 10 := by rw [Lib.decDigits_length]; exact nDigits_le 10 u (by omega) (by omega)
  simpa using this
theorem dig_pos : ∀ (u : Nat) (n : Int) (w : World), n.toNat = u → 0 ≤ n → n ≤ 2147483647 →
    Calls Tryz.prog 114 #[.int .i64 n] w fun e w' => e = .returned (.string (decB n.toNat)) ∧ w = w' := by
  intro u
  induction u using Nat.strongRecOn with
  | _ u ih =>
    intro n w hu h0 h1
    by_cases hn : n < 10
    · exact dig_one n w h0 hn
    · have s1 := decB_size (u := (n / 10).toNat) (by omega)
      have s2 := decB_size (u := (n % 10).toNat) (by omega)
      exact dig_more n w (by omega) h1 (fun W => ih _ (by omega) (n / 10) W rfl (by omega) (by omega)) (fun W => ih _ (by omega) (n % 10) W rfl (by omega) (by omega)) (by omega)
theorem dig_negs : ∀ (u : Nat) (m : Int) (w : World), m.toNat = u → 1 ≤ m → m ≤ 2147483647 →
    Calls Tryz.prog 114 #[.int .i64 (-m)] w fun e w' => e = .returned (.string (negB m.toNat)) ∧ w = w' := by
  intro u
  induction u using Nat.strongRecOn with
  | _ u ih =>
    intro m w hu h0 h1
    by_cases hn : m < 10
    · have s1 := decB_size (u := m.toNat) (by omega)
      exact dig_neg1 m w h0 hn (by omega)
    · have s1 := negB_size (u := (m / 10).toNat) (by omega)
      have s2 := decB_size (u := (m % 10).toNat) (by omega)
      exact dig_neg2 m w (by omega) h1 (fun W => ih _ (by omega) (m / 10) W rfl (by omega) (by omega)) (fun W => dig_pos _ (m % 10) W rfl (by omega) (by omega)) (by omega)

theorem Digits_any (n : Int) (h : inRng n = true) (w : World) :
    Calls Tryz.prog 114 #[.int .i64 n] w fun e w' => e = .returned (.string (itoaB n)) ∧ w = w' := by
  obtain ⟨h1, h2⟩ := inRng_iff.1 h
  by_cases hn : n < 0
  · have e : itoaB n = negB (-n).toNat := by
      unfold itoaB negB Lib.itoa
      rw [if_pos hn]
      have : n.natAbs = (-n).toNat := by omega
      rw [this]
    rw [e]
    have := dig_negs _ (-n) w rfl (by omega) (by omega)
    rwa [Int.neg_neg] at this
  · have e : itoaB n = decB n.toNat := by
      unfold itoaB decB Lib.itoa
      rw [if_neg hn]
    rw [e]
    exact dig_pos _ n w rfl (by omega) (by omega)

theorem refRight_is (k n : Int) (s : ByteArray) (b : Bool) (h : isRight k n s = b) (hs : s.size ≤ maxLen) (w : World) :
    Calls Tryz.prog 112 #[vv k n s] w fun e w' => e = .returned (.bool b) ∧ Below w.heap.size w w' := by
  subst h; exact refRight_any k n s w hs

theorem right_sym {k n : Int} {s : ByteArray} (hk : ¬ k = 2) (h : isRight k n s = true) : k = 1 := by
  unfold isRight at h
  split at h
  · assumption
  · cases h

set_option maxHeartbeats 1000000 in
theorem refText_any (k n : Int) (s : ByteArray) (w : World) (hs : s.size ≤ maxLen) :
    Calls Tryz.prog 88 #[vv k n s] w fun e w' => e = .returned (.string (textV k n s)) ∧ Below w.heap.size w w' := by
  have x0 := Box.new w k n s
  have B0 := (Below.refl w.heap.size w).alloc (o := .cells #[.int .i64 k, .int .i64 n, .string s] 56) (Nat.le_refl _)
  cases hr : isRight k n s with
  | false =>
    have HR := Lib.hid hr
    have HX := Lib.hid (show textV k n s = noText by simp only [textV, hr]; rfl)
    clear hr
    go_enter Tryz.func88, Tryz.ntmps88
    go_wp2_with fail
    refine (refRight_is _ _ _ _ HR.out hs _).mono ?_
    rintro e w1 ⟨rfl, b1⟩
    go_wp2
    go_ret
    exact ⟨ret_str HX.out.symm, B0.trans (b1.mono B0.size)⟩
  | true =>
    have HR := Lib.hid hr
    by_cases hk : k = 2
    · subst hk
      have HX := Lib.hid (show textV 2 n s = s by simp only [textV, hr]; rfl)
      clear hr
      go_enter Tryz.func88, Tryz.ntmps88
      go_wp2_with fail
      refine (refRight_is _ _ _ _ HR.out hs _).mono ?_
      rintro e w1 ⟨rfl, b1⟩
      obtain ⟨p0, p1, p2, p3⟩ := x0.below b1
      go_wp2
      go_ret
      exact ⟨ret_str HX.out.symm, B0.trans (b1.mono B0.size)⟩
    · obtain rfl := right_sym hk hr
      obtain ⟨hn, rfl⟩ := right_one hr
      have HN := Lib.hid hn
      have HX := Lib.hid (show textV 1 n noText = itoaB n by simp only [textV, hr]; rfl)
      clear hr hn hk
      go_enter Tryz.func88, Tryz.ntmps88
      go_wp2_with fail
      refine (refRight_is _ _ _ _ HR.out hs _).mono ?_
      rintro e w1 ⟨rfl, b1⟩
      obtain ⟨p0, p1, p2, p3⟩ := x0.below b1
      go_wp2_with fail
      refine (Digits_any _ HN.out _).mono ?_
      rintro e w2 ⟨rfl, rfl⟩
      go_wp2
      go_ret
      exact ⟨ret_str HX.out.symm, B0.trans (b1.mono B0.size)⟩

end Go.Proofs.YtikohamfnnlhcaaGreatDoor
