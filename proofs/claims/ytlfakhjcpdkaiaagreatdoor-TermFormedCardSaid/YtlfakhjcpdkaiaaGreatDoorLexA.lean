/- What tokens a text has: the plain mathematics. Conditions: none. -/
import Derived.Test.YtlfakhjcpdkaiaaGreatDoorValSmall
import Derived.Lib.Join
namespace Go.Proofs.YtlfakhjcpdkaiaaGreatDoor

def upB (c : UInt8) : Bool := decide (65 ≤ (c.toNat : Int)) && decide ((c.toNat : Int) ≤ 90)
def wb (c : UInt8) : Bool := isLet c || (upB c || (isDig c || ((c.toNat : Int) == 95)))
def blB (c : UInt8) : Bool := ((c.toNat : Int) == 9) || (((c.toNat : Int) == 10) || (((c.toNat : Int) == 13) || ((c.toNat : Int) == 32)))
def perB (c : UInt8) : Bool := ((c.toNat : Int) == 37)
def lfB (c : UInt8) : Bool := ((c.toNat : Int) == 10)

/-- how many bytes of blanks and comments a text begins with; true: within a comment. -/
def skipN : Bool → List UInt8 → Nat
  | _, [] => 0
  | false, c :: r => if blB c = true then skipN false r + 1 else if perB c = true then skipN true r + 1 else 0
  | true, c :: r => if lfB c = true then skipN false r + 1 else skipN true r + 1
theorem skip_le : ∀ (l : List UInt8) (b : Bool), skipN b l ≤ l.length
  | [], b => by cases b <;> simp [skipN]
  | c :: r, b => by
    have h1 := skip_le r false
    have h2 := skip_le r true
    cases b
    · simp only [skipN, List.length_cons]; split
      · omega
      · split <;> omega
    · simp only [skipN, List.length_cons]; split <;> omega
theorem skip_take : ∀ (l : List UInt8) (b : Bool), skipN b (l.take (skipN b l)) = skipN b l
  | [], b => by cases b <;> simp [skipN]
  | c :: r, b => by
    have h1 := skip_take r false
    have h2 := skip_take r true
    cases b
    · simp only [skipN]
      by_cases hb : blB c = true
      · simp only [hb, if_true, List.take_succ_cons, skipN, h1]
      · by_cases hp : perB c = true
        · simp only [hb, hp, if_false, if_true, Bool.false_eq_true, List.take_succ_cons, skipN, h2]
        · simp only [hb, hp, if_false, Bool.false_eq_true, List.take_zero, skipN]
    · simp only [skipN]
      by_cases hb : lfB c = true
      · simp only [hb, if_true, List.take_succ_cons, skipN, h1]
      · simp only [hb, if_false, Bool.false_eq_true, List.take_succ_cons, skipN, h2]
theorem lf_bl {c : UInt8} (h : lfB c = true) : blB c = true := by
  simp only [lfB] at h
  simp [blB, h]
/-- how far the next line feed is, or the end. -/
def lineN (l : List UInt8) : Nat := (l.takeWhile fun c => !lfB c).length
theorem line_le (l : List UInt8) : lineN l ≤ l.length := (List.takeWhile_prefix _).length_le
theorem skip_line : ∀ (l : List UInt8), skipN true l = lineN l + skipN false (l.drop (lineN l))
  | [] => by simp [skipN, lineN]
  | c :: r => by
    by_cases h : lfB c = true
    · have e : lineN (c :: r) = 0 := by simp [lineN, h]
      rw [e]
      simp only [List.drop_zero, skipN, h, if_true, lf_bl h, Nat.zero_add]
    · have e : lineN (c :: r) = lineN r + 1 := by simp [lineN, h]
      rw [e]
      simp only [skipN, h, if_false, Bool.false_eq_true, List.drop_succ_cons]
      rw [skip_line r]
      omega
/-- a comment: what stands behind the per cent sign's line. -/
theorem skip_per {c : UInt8} {r : List UInt8} (hb : blB c = false) (hp : perB c = true) : skipN false (c :: r) = lineN (c :: r) + skipN false ((c :: r).drop (lineN (c :: r))) := by
  have hl : lfB c = false := by
    cases h : lfB c with
    | false => rfl
    | true => rw [lf_bl h] at hb; cases hb
  have e : lineN (c :: r) = lineN r + 1 := by simp [lineN, hl]
  rw [e]
  simp only [skipN, hb, hp, if_true, if_false, Bool.false_eq_true, List.drop_succ_cons]
  rw [skip_line r]
  omega
theorem skip_bl {c : UInt8} {r : List UInt8} (hb : blB c = true) : skipN false (c :: r) = skipN false r + 1 := by simp [skipN, hb]
theorem skip_no {c : UInt8} {r : List UInt8} (hb : blB c = false) (hp : perB c = false) : skipN false (c :: r) = 0 := by simp [skipN, hb, hp]
theorem skip_head : ∀ (l : List UInt8) (b : Bool) (c : UInt8) (r : List UInt8), l.drop (skipN b l) = c :: r → blB c = false ∧ perB c = false
  | [], b, c, r, h => by simp at h
  | d :: l, b, c, r, h => by
    cases b
    · simp only [skipN] at h
      by_cases hb : blB d = true
      · simp only [hb, if_true, List.drop_succ_cons] at h
        exact skip_head l false c r h
      · by_cases hp : perB d = true
        · simp only [hb, hp, if_true, if_false, Bool.false_eq_true, List.drop_succ_cons] at h
          exact skip_head l true c r h
        · simp only [hb, hp, if_false, Bool.false_eq_true, List.drop_zero, List.cons.injEq] at h
          obtain ⟨rfl, _⟩ := h
          exact ⟨by simpa using hb, by simpa using hp⟩
    · simp only [skipN] at h
      by_cases hb : lfB d = true
      · simp only [hb, if_true, List.drop_succ_cons] at h
        exact skip_head l false c r h
      · simp only [hb, if_false, Bool.false_eq_true, List.drop_succ_cons] at h
        exact skip_head l true c r h

def signsL : List (List UInt8) := [[58,45],[33,61],[60,61],[62,61],[40],[41],[44],[46],[61],[60],[62],[43],[45],[42]]
def keysL : List (List UInt8) := [[114,101,108],[105,110,116],[115,121,109],[110,111,116],[99,111,117,110,116],[115,117,109],[109,105,110],[109,97,120]]
/-- a token: its kind, its text, where it stands. -/
abbrev Tk := Nat × List UInt8 × Nat
def signOf (l : List UInt8) : Option (List UInt8) := signsL.find? fun p => p.isPrefixOf l
def tokOf (kw : List UInt8 → Nat) (l : List UInt8) : Option (Nat × List UInt8) :=
  if l.takeWhile wb = [] then (signOf l).map fun p => (5, p) else if kw (l.takeWhile wb) = 0 then none else some (kw (l.takeWhile wb), l.takeWhile wb)
def lexF (kw : List UInt8 → Nat) : Nat → Nat → List UInt8 → List Tk × Option Nat
  | 0, _, _ => ([], none)
  | f + 1, o, l =>
    if l.drop (skipN false l) = [] then ([], none) else
    match tokOf kw (l.drop (skipN false l)) with
    | none => ([], some (o + skipN false l))
    | some (q, t) => ((q, t, o + skipN false l) :: (lexF kw f (o + skipN false l + t.length) ((l.drop (skipN false l)).drop t.length)).1, (lexF kw f (o + skipN false l + t.length) ((l.drop (skipN false l)).drop t.length)).2)
def lexA (kw : List UInt8 → Nat) (o : Nat) (l : List UInt8) : List Tk × Option Nat := lexF kw (l.length + 1) o l

section
variable {kw : List UInt8 → Nat}
theorem sign_mem {l p : List UInt8} (h : signOf l = some p) : p ∈ signsL ∧ p <+: l := by
  unfold signOf at h
  exact ⟨List.mem_of_find?_eq_some h, by have := List.find?_some h; exact List.isPrefixOf_iff_prefix.1 this⟩
theorem sign_ne {p : List UInt8} (h : p ∈ signsL) : p ≠ [] := by
  rintro rfl
  revert h
  decide
theorem tok_text {l : List UInt8} {q : Nat} {t : List UInt8} (h : tokOf kw l = some (q, t)) : t ≠ [] ∧ t <+: l := by
  unfold tokOf at h
  split at h
  · rw [Option.map_eq_some_iff] at h
    obtain ⟨p, hp, h2⟩ := h
    injection h2 with _ h2
    subst h2
    exact ⟨sign_ne (sign_mem hp).1, (sign_mem hp).2⟩
  · rename_i hn
    split at h
    · cases h
    · injection h with h
      injection h with _ h2
      subst h2
      exact ⟨hn, List.takeWhile_prefix _⟩
theorem lexF_fuel : ∀ (f g o : Nat) (l : List UInt8), l.length < f → l.length < g → lexF kw f o l = lexF kw g o l
  | 0, _, _, _, h, _ => by omega
  | _ + 1, 0, _, _, _, h => by omega
  | f + 1, g + 1, o, l, h1, h2 => by
    simp only [lexF]
    split
    · rfl
    · cases ht : tokOf kw (l.drop (skipN false l)) with
      | none => rfl
      | some qt =>
        obtain ⟨q, t⟩ := qt
        obtain ⟨hn, hp⟩ := tok_text ht
        have h3 : 0 < t.length := List.length_pos_iff.2 hn
        have h4 := hp.length_le
        have h5 : ((l.drop (skipN false l)).drop t.length).length < l.length := by
          simp only [List.length_drop] at h4 ⊢
          omega
        have e := lexF_fuel f g (o + skipN false l + t.length) ((l.drop (skipN false l)).drop t.length) (by omega) (by omega)
        simp only [e]
theorem lexA_end {o : Nat} {l : List UInt8} (h : l.drop (skipN false l) = []) : lexA kw o l = ([], none) := by simp [lexA, lexF, h]
theorem lexA_bad {o : Nat} {l : List UInt8} (h : l.drop (skipN false l) ≠ []) (ht : tokOf kw (l.drop (skipN false l)) = none) : lexA kw o l = ([], some (o + skipN false l)) := by simp [lexA, lexF, h, ht]
theorem lexA_tok {o q : Nat} {l t : List UInt8} (h : l.drop (skipN false l) ≠ []) (ht : tokOf kw (l.drop (skipN false l)) = some (q, t)) :
    lexA kw o l = ((q, t, o + skipN false l) :: (lexA kw (o + skipN false l + t.length) ((l.drop (skipN false l)).drop t.length)).1, (lexA kw (o + skipN false l + t.length) ((l.drop (skipN false l)).drop t.length)).2) := by
  obtain ⟨hn, hp⟩ := tok_text ht
  have h3 : 0 < t.length := List.length_pos_iff.2 hn
  have h4 := hp.length_le
  have h5 : ((l.drop (skipN false l)).drop t.length).length < l.length := by
    simp only [List.length_drop] at h4 ⊢
    omega
  have e := lexF_fuel (kw := kw) l.length (((l.drop (skipN false l)).drop t.length).length + 1) (o + skipN false l + t.length) ((l.drop (skipN false l)).drop t.length) h5 (by omega)
  simp only [lexA, lexF, h, ht, if_false, e]
/-- blanks and comments ahead change nothing but places. -/
theorem lexA_skip (o : Nat) (l : List UInt8) (k : Nat) (hs : skipN false l = k + skipN false (l.drop k)) : lexA kw o l = lexA kw (o + k) (l.drop k) := by
  have e : (l.drop k).drop (skipN false (l.drop k)) = l.drop (skipN false l) := by rw [List.drop_drop, hs]
  have e2 : o + k + skipN false (l.drop k) = o + skipN false l := by omega
  by_cases h : l.drop (skipN false l) = []
  · rw [lexA_end h, lexA_end (by rw [e]; exact h)]
  · cases ht : tokOf kw (l.drop (skipN false l)) with
    | none => rw [lexA_bad h ht, lexA_bad (by rw [e]; exact h) (by rw [e]; exact ht), e2]
    | some qt =>
      obtain ⟨q, t⟩ := qt
      rw [lexA_tok h ht, lexA_tok (o := o + k) (l := l.drop k) (by rw [e]; exact h) (by rw [e]; exact ht), e, e2]
/-- what is true of every token that is found. -/
theorem lexA_ind {P : Nat → List UInt8 → List Tk × Option Nat → Prop}
    (hend : ∀ o l, l.drop (skipN false l) = [] → P o l ([], none))
    (hbad : ∀ o l, l.drop (skipN false l) ≠ [] → tokOf kw (l.drop (skipN false l)) = none → P o l ([], some (o + skipN false l)))
    (htok : ∀ o l q t R, l.drop (skipN false l) ≠ [] → tokOf kw (l.drop (skipN false l)) = some (q, t) → t ≠ [] → t <+: l.drop (skipN false l) → lexA kw (o + skipN false l + t.length) ((l.drop (skipN false l)).drop t.length) = R → P (o + skipN false l + t.length) ((l.drop (skipN false l)).drop t.length) R → P o l ((q, t, o + skipN false l) :: R.1, R.2)) :
    ∀ (n o : Nat) (l : List UInt8), l.length = n → P o l (lexA kw o l) := by
  intro n
  induction n using Nat.strongRecOn with
  | ind n ih =>
    intro o l hl
    by_cases h : l.drop (skipN false l) = []
    · rw [lexA_end h]; exact hend o l h
    · cases ht : tokOf kw (l.drop (skipN false l)) with
      | none => rw [lexA_bad h ht]; exact hbad o l h ht
      | some qt =>
        obtain ⟨q, t⟩ := qt
        obtain ⟨hn, hp⟩ := tok_text ht
        have h3 : 0 < t.length := List.length_pos_iff.2 hn
        have h4 := hp.length_le
        have h5 : ((l.drop (skipN false l)).drop t.length).length < n := by
          simp only [List.length_drop] at h4 ⊢
          omega
        rw [lexA_tok h ht]
        exact htok o l q t _ h ht hn hp rfl (ih _ h5 _ _ rfl)

theorem wb_not {c : UInt8} (h : wb c = true) : blB c = false ∧ perB c = false := by
  simp only [wb, isLet, upB, isDig, Bool.or_eq_true, Bool.and_eq_true, decide_eq_true_eq, beq_iff_eq] at h
  simp only [blB, perB, Bool.or_eq_false_iff, beq_eq_false_iff_ne]
  omega
theorem sign_head {p : List UInt8} (h : p ∈ signsL) : ∃ c r, p = c :: r ∧ wb c = false ∧ blB c = false ∧ perB c = false := by
  simp only [signsL, List.mem_cons, List.not_mem_nil, or_false] at h
  rcases h with rfl | rfl | rfl | rfl | rfl | rfl | rfl | rfl | rfl | rfl | rfl | rfl | rfl | rfl <;> exact ⟨_, _, rfl, by decide, by decide, by decide⟩
theorem sign_alone {p : List UInt8} (h : p ∈ signsL) : signOf p = some p ∧ ∀ r, signOf (p ++ 32 :: r) = some p := by
  simp only [signsL, List.mem_cons, List.not_mem_nil, or_false] at h
  rcases h with rfl | rfl | rfl | rfl | rfl | rfl | rfl | rfl | rfl | rfl | rfl | rfl | rfl | rfl <;> exact ⟨rfl, fun r => rfl⟩
/-- a token's text is read as that token, alone and ahead of a blank. -/
structure Tokd (kw : List UInt8 → Nat) (q : Nat) (t : List UInt8) : Prop where
  ne : t ≠ []
  head : ∀ c r, t = c :: r → blB c = false ∧ perB c = false
  alone : tokOf kw t = some (q, t)
  more : ∀ r, tokOf kw (t ++ 32 :: r) = some (q, t)
theorem takeWhile_all {p : UInt8 → Bool} : ∀ {l : List UInt8}, (∀ x ∈ l, p x = true) → l.takeWhile p = l
  | [], _ => rfl
  | c :: r, h => by rw [List.takeWhile_cons, if_pos (h c (by simp)), takeWhile_all fun x hx => h x (by simp [hx])]
theorem takeWhile_more {p : UInt8 → Bool} {c : UInt8} (hc : p c = false) {r : List UInt8} : ∀ {l : List UInt8}, (∀ x ∈ l, p x = true) → (l ++ c :: r).takeWhile p = l
  | [], _ => by simp [hc]
  | d :: l, h => by rw [List.cons_append, List.takeWhile_cons, if_pos (h d (by simp)), takeWhile_more hc fun x hx => h x (by simp [hx])]
theorem mem_takeWhile {p : UInt8 → Bool} : ∀ {l : List UInt8} {x : UInt8}, x ∈ l.takeWhile p → p x = true
  | c :: l, x, h => by
    rw [List.takeWhile_cons] at h
    split at h
    · rcases List.mem_cons.1 h with rfl | h
      · assumption
      · exact mem_takeWhile h
    · cases h
theorem tok_good {l : List UInt8} {q : Nat} {t : List UInt8} (h : tokOf kw l = some (q, t)) : Tokd kw q t := by
  have hne := (tok_text h).1
  unfold tokOf at h
  split at h
  · rw [Option.map_eq_some_iff] at h
    obtain ⟨p, hp, h2⟩ := h
    injection h2 with h1 h2
    subst h1
    subst h2
    obtain ⟨c, r, rfl, hw, hb, hpc⟩ := sign_head (sign_mem hp).1
    obtain ⟨a1, a2⟩ := sign_alone (sign_mem hp).1
    refine ⟨hne, fun c' r' e => by cases e; exact ⟨hb, hpc⟩, ?_, fun r' => ?_⟩
    · unfold tokOf
      rw [if_pos (by simp [hw]), a1]; rfl
    · unfold tokOf
      rw [if_pos (by simp [hw]), a2]; rfl
  · rename_i hn
    split at h
    · cases h
    · rename_i hk
      injection h with h
      injection h with h1 h2
      have hall : ∀ x ∈ t, wb x = true := fun x hx => by rw [← h2] at hx; exact mem_takeWhile hx
      rw [h2] at hk h1 hn
      have e1 := takeWhile_all hall
      have e2 : ∀ r, (t ++ 32 :: r).takeWhile wb = t := fun r => takeWhile_more (by decide) hall
      refine ⟨hne, fun c r e => wb_not (hall c (by rw [e]; simp)), ?_, fun r => ?_⟩
      · unfold tokOf
        rw [e1, if_neg hn, if_neg hk, h1]
      · unfold tokOf
        rw [e2 r, if_neg hn, if_neg hk, h1]
theorem lexA_good (o : Nat) (l : List UInt8) : ∀ x ∈ (lexA kw o l).1, Tokd kw x.1 x.2.1 := by
  refine lexA_ind (kw := kw) (P := fun _ _ R => ∀ x ∈ R.1, Tokd kw x.1 x.2.1) (fun _ _ _ x h => by cases h) (fun _ _ _ _ x h => by cases h) (fun o l q t R _ ht _ _ _ hR x hx => ?_) _ o l rfl
  rcases List.mem_cons.1 hx with rfl | hx
  · exact tok_good ht
  · exact hR x hx
/-- the joined texts of tokens are read as the same tokens. -/
theorem lexA_join : ∀ (L : List (Nat × List UInt8)) (o : Nat), (∀ x ∈ L, Tokd kw x.1 x.2) →
    ((lexA kw o (Lib.join (L.map (·.2)) [32])).1.map fun x => (x.1, x.2.1)) = L ∧ (lexA kw o (Lib.join (L.map (·.2)) [32])).2 = none
  | [], o, _ => by
    rw [show Lib.join (([] : List (Nat × List UInt8)).map (·.2)) [32] = [] from rfl, lexA_end (by simp)]
    exact ⟨rfl, rfl⟩
  | [(q, t)], o, h => by
    have ht := h (q, t) (by simp)
    obtain ⟨c, r, e⟩ := List.exists_cons_of_ne_nil ht.ne
    obtain ⟨hb, hp⟩ := ht.head c r e
    have hs : skipN false t = 0 := by simp only at e; rw [e]; exact skip_no hb hp
    rw [show Lib.join (([(q, t)] : List (Nat × List UInt8)).map (·.2)) [32] = t from Lib.join_one t [32]]
    have hd : t.drop (skipN false t) = t := by rw [hs]; rfl
    rw [lexA_tok (by rw [hd]; exact ht.ne) (by rw [hd]; exact ht.alone), hd, lexA_end (l := t.drop t.length) (by simp)]
    exact ⟨rfl, rfl⟩
  | (q, t) :: y :: L, o, h => by
    have ht := h (q, t) (by simp)
    have hy := h y (by simp)
    obtain ⟨c, r, e⟩ := List.exists_cons_of_ne_nil ht.ne
    obtain ⟨hb, hp⟩ := ht.head c r e
    have ej : Lib.join (((q, t) :: y :: L).map (·.2)) [32] = t ++ 32 :: Lib.join ((y :: L).map (·.2)) [32] := by
      simp [Lib.join, List.intercalate]
    rw [ej]
    have hs : skipN false (t ++ 32 :: Lib.join ((y :: L).map (·.2)) [32]) = 0 := by simp only at e; rw [e]; exact skip_no hb hp
    have hd : (t ++ 32 :: Lib.join ((y :: L).map (·.2)) [32]).drop (skipN false (t ++ 32 :: Lib.join ((y :: L).map (·.2)) [32])) = t ++ 32 :: Lib.join ((y :: L).map (·.2)) [32] := by rw [hs]; rfl
    rw [lexA_tok (by rw [hd]; simp) (by rw [hd]; exact ht.more _), hd, List.drop_left, lexA_skip (k := 1) (l := 32 :: Lib.join ((y :: L).map (·.2)) [32]) (hs := by rw [skip_bl (by decide)]; simp only [List.drop_succ_cons, List.drop_zero]; omega)]
    simp only [List.drop_succ_cons, List.drop_zero, List.map_cons]
    obtain ⟨h1, h2⟩ := lexA_join (y :: L) (o + skipN false (t ++ 32 :: Lib.join ((y :: L).map (·.2)) [32]) + t.length + 1) (fun x hx => h x (by simp [hx]))
    exact ⟨by rw [List.map_cons] at h1; rw [h1], by rw [List.map_cons] at h2; exact h2⟩
/-- where the tokens stand. -/
theorem lexA_at (s : List UInt8) (o : Nat) (ho : o ≤ s.length) : ∀ x ∈ (lexA kw o (s.drop o)).1, x.2.2 + x.2.1.length ≤ s.length ∧ (s.drop x.2.2).take x.2.1.length = x.2.1 := by
  refine lexA_ind (kw := kw) (P := fun o l R => o ≤ s.length → l = s.drop o → ∀ x ∈ R.1, x.2.2 + x.2.1.length ≤ s.length ∧ (s.drop x.2.2).take x.2.1.length = x.2.1) (fun _ _ _ _ _ x h => by cases h) (fun _ _ _ _ _ _ x h => by cases h) (fun o l q t R _ ht _ hp _ hR ho hl x hx => ?_) _ o _ rfl ho rfl
  subst hl
  have h1 := hp.length_le
  have h2 := skip_le (s.drop o) false
  rw [List.drop_drop] at hp
  simp only [List.length_drop] at h1 h2
  rcases List.mem_cons.1 hx with rfl | hx
  · refine ⟨by simp only; omega, ?_⟩
    obtain ⟨r, hr⟩ := hp
    simp only
    rw [← hr, List.take_left]
  · exact hR (by omega) (by rw [List.drop_drop, List.drop_drop, Nat.add_assoc]) x hx
/-- the tokens' texts are not longer than the text. -/
theorem lexA_len (o : Nat) (l : List UInt8) : ((lexA kw o l).1.map fun x => x.2.1.length).sum ≤ l.length ∧ (lexA kw o l).1.length ≤ l.length := by
  refine lexA_ind (kw := kw) (P := fun _ l R => (R.1.map fun x => x.2.1.length).sum ≤ l.length ∧ R.1.length ≤ l.length) (fun _ _ _ => by simp) (fun _ _ _ _ => by simp) (fun o l q t R _ ht hn hp _ hR => ?_) _ o l rfl
  have h1 := hp.length_le
  have h3 : 0 < t.length := List.length_pos_iff.2 hn
  have h2 := skip_le l false
  obtain ⟨a, b⟩ := hR
  simp only [List.length_drop] at h1 a b
  simp only [List.map_cons, List.sum_cons, List.length_cons]
  omega
theorem join_len : ∀ (L : List (List UInt8)), (∀ t ∈ L, t ≠ []) → (Lib.join L [32]).length ≤ 2 * (L.map List.length).sum
  | [], _ => by simp [Lib.join_nil]
  | [t], _ => by rw [Lib.join_one]; simp; omega
  | t :: y :: L, h => by
    have ej : Lib.join (t :: y :: L) [32] = t ++ 32 :: Lib.join (y :: L) [32] := by
      simp [Lib.join, List.intercalate]
    have ih := join_len (y :: L) (fun x hx => h x (by simp [hx]))
    have h3 : 0 < t.length := List.length_pos_iff.2 (h t (by simp))
    rw [ej]
    simp only [List.length_append, List.length_cons, List.map_cons, List.sum_cons] at ih ⊢
    omega
/-- between tokens there are blanks and comments alone. -/
def GapsOk (kw : List UInt8 → Nat) (s : List UInt8) : Nat → List Tk → Prop
  | e, [] => e ≤ s.length ∧ lexA kw 0 (s.drop e) = ([], none)
  | e, x :: L => e ≤ x.2.2 ∧ x.2.2 + x.2.1.length ≤ s.length ∧ lexA kw 0 ((s.drop e).take (x.2.2 - e)) = ([], none) ∧ GapsOk kw s (x.2.2 + x.2.1.length) L
theorem lexA_gaps (s : List UInt8) (o : Nat) (ho : o ≤ s.length) (hn : (lexA kw o (s.drop o)).2 = none) : GapsOk kw s o (lexA kw o (s.drop o)).1 := by
  refine lexA_ind (kw := kw) (P := fun o l R => o ≤ s.length → l = s.drop o → R.2 = none → GapsOk kw s o R.1) (fun o l h ho hl _ => ?_) (fun _ _ _ _ _ _ h => by cases h) (fun o l q t R _ ht _ hp _ hR ho hl h2 => ?_) _ o _ rfl ho rfl hn
  · subst hl
    exact ⟨ho, lexA_end h⟩
  · subst hl
    have h1 := hp.length_le
    have h3 := skip_le (s.drop o) false
    simp only [List.length_drop] at h1 h3
    refine ⟨by simp only; omega, by simp only; omega, ?_, hR (by omega) (by rw [List.drop_drop, List.drop_drop, Nat.add_assoc]) h2⟩
    simp only
    rw [show o + skipN false (s.drop o) - o = skipN false (s.drop o) from by omega]
    exact lexA_end (by rw [skip_take]; simp)
end
end Go.Proofs.YtlfakhjcpdkaiaaGreatDoor
