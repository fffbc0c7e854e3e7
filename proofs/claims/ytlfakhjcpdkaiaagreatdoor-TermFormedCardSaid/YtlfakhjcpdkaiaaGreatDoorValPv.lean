/- Which number a text is: the decimal text of a number is read as that number, and no other text is read as it; so value.Parse and corollaryref01.Parse answer the same. Conditions: texts of at most 2^48 bytes; the library's table and its two sentinel errors. -/
import Derived.Test.YtlfakhjcpdkaiaaGreatDoorValRefParse
import Derived.Test.YtlfakhjcpdkaiaaGreatDoorValBack
import Derived.Test.YtlfakhjcpdkaiaaGreatDoorValOrd
namespace Go.Proofs.YtlfakhjcpdkaiaaGreatDoor
open Go.RowKit

/-- the number of a text. -/
def pv (l : List UInt8) : Option Int :=
  if l.head? = some 45 then signed true (pnum true l.tail) else signed false (pnum false l)

theorem decFrom_digits : ∀ (l : List UInt8) (a b : Nat), Lib.decFrom a l = some b → ∀ c ∈ l, 48 ≤ c.toNat ∧ c.toNat ≤ 57
  | [], _, _, _, _, hc => by cases hc
  | x :: l, a, b, h, c, hc => by
    simp only [Lib.decFrom] at h
    split at h
    · rename_i d hd
      have hx : 48 ≤ x.toNat ∧ x.toNat ≤ 57 := by
        unfold Lib.digitVal at hd
        split at hd
        · assumption
        · cases hd
      rcases List.mem_cons.1 hc with rfl | hc
      · exact hx
      · exact decFrom_digits l _ _ h c hc
    · cases h
theorem decFrom_split (p : List UInt8) (c : UInt8) (m : Nat) (h : Lib.decFrom 0 (p ++ [c]) = some m) :
    ∃ q, Lib.decFrom 0 p = some q ∧ m = q * 10 + (c.toNat - 48) ∧ 48 ≤ c.toNat ∧ c.toNat ≤ 57 := by
  cases hp : Lib.decFrom 0 p with
  | none =>
    exfalso
    have hall := decFrom_digits _ _ _ h
    have key : ∀ (l : List UInt8) (a : Nat), (∀ x ∈ l, 48 ≤ x.toNat ∧ x.toNat ≤ 57) → Lib.decFrom a l ≠ none := by
      intro l
      induction l with
      | nil => intro a _ h; simp [Lib.decFrom] at h
      | cons x l ih =>
        intro a hl h
        have hx := hl x (by simp)
        have : Lib.digitVal x = some (x.toNat - 48) := by unfold Lib.digitVal; rw [if_pos hx]
        simp only [Lib.decFrom, this] at h
        exact ih _ (fun y hy => hl y (by simp [hy])) h
    exact key p 0 (fun x hx => hall x (by simp [hx])) hp
  | some q =>
    rw [decFrom_append _ _ _ _ hp] at h
    have hc : 48 ≤ c.toNat ∧ c.toNat ≤ 57 := by
      have := decFrom_digits _ _ _ h c (by simp)
      exact this
    rw [decFrom_one hc.1 hc.2] at h
    exact ⟨q, rfl, (Option.some.inj h).symm, hc⟩
theorem u8_back {c : UInt8} (h1 : 48 ≤ c.toNat) : UInt8.ofNat (48 + (c.toNat - 48)) = c := by
  have : 48 + (c.toNat - 48) = c.toNat := by omega
  rw [this]; simp
theorem dec_of : ∀ (n : Nat) (t : List UInt8) (m : Nat), t.length = n → t ≠ [] → (t = [48] ∨ t.head? ≠ some 48) → Lib.decFrom 0 t = some m → Lib.decDigits m = t := by
  intro n
  induction n with
  | zero => intro t m hl hne; exact absurd (List.eq_nil_of_length_eq_zero hl) hne
  | succ n ih =>
    intro t m hl hne hh hd
    have ht : t = t.dropLast ++ [t.getLast hne] := (List.dropLast_concat_getLast hne).symm
    generalize hp : t.dropLast = p at ht
    generalize hc : t.getLast hne = c at ht
    have hpl : p.length = n := by rw [← hp]; simp [hl]
    clear hp hc
    subst ht
    obtain ⟨q, hq, hm, c1, c2⟩ := decFrom_split p c m hd
    cases hp : p with
    | nil =>
      subst hp
      simp [Lib.decFrom] at hq
      subst hq
      have hm' : m = c.toNat - 48 := by omega
      rw [hm', Lib.decDigits_one (by omega), u8_back c1]
      rfl
    | cons a r =>
      have hne' : p ≠ [] := by rw [hp]; simp
      have hh' : p.head? ≠ some 48 := by
        rcases hh with hh | hh
        · rw [hp] at hh; simp at hh
        · rw [hp] at hh ⊢; simpa using hh
      have e := ih p q hpl hne' (.inr hh') hq
      have hq1 : 1 ≤ q := by
        rcases Nat.eq_zero_or_pos q with h0 | h0
        · exfalso
          rw [h0, Lib.decDigits_one (by omega)] at e
          rw [← e] at hh'
          simp at hh'
        · exact h0
      have hm1 : m / 10 = q := by omega
      have hm2 : m % 10 = c.toNat - 48 := by omega
      rw [dec_step (by omega), hm1, hm2, e, Lib.decDigits_one (by omega), u8_back c1, hp]
theorem head_ok {neg : Bool} {t : List UInt8} (h : ¬ (t.head? = some 48 ∧ (1 < t.length ∨ neg = true))) (hne : t ≠ []) : (t = [48] ∧ neg = false) ∨ t.head? ≠ some 48 := by
  by_cases h48 : t.head? = some 48
  · left
    have h1 : ¬ 1 < t.length := fun x => h ⟨h48, .inl x⟩
    have h2 : ¬ neg = true := fun x => h ⟨h48, .inr x⟩
    cases t with
    | nil => exact absurd rfl hne
    | cons a r =>
      simp at h1 h48
      subst h48 h1
      exact ⟨rfl, by simpa using h2⟩
  · exact .inr h48
theorem pnum_some {neg : Bool} {t : List UInt8} {m : Nat} (h : pnum neg t = some m) : m ≤ 2147483647 ∧ Lib.decDigits m = t ∧ (neg = true → 1 ≤ m) := by
  unfold pnum at h
  split at h
  · cases h
  · rename_i h1
    split at h
    · cases h
    · rename_i h2
      split at h
      · rename_i q hq
        split at h
        · rename_i hle
          obtain rfl := Option.some.inj h
          have hne : t ≠ [] := fun e => by subst e; exact h1 (.inl rfl)
          rcases head_ok h2 hne with ⟨rfl, hn⟩ | hh
          · refine ⟨hle, dec_of _ _ _ rfl hne (.inl rfl) hq, fun hn' => by rw [hn] at hn'; cases hn'⟩
          · have e := dec_of _ _ _ rfl hne (.inr hh) hq
            refine ⟨hle, e, fun _ => ?_⟩
            rcases Nat.eq_zero_or_pos q with h0 | h0
            · exfalso
              rw [h0, Lib.decDigits_one (by omega)] at e
              rw [← e] at hh
              simp at hh
            · exact h0
        · cases h
      · cases h
/-- what is read is a number whose decimal text it is. -/
theorem pv_some {l : List UInt8} {n : Int} (h : pv l = some n) : inRng n = true ∧ Lib.itoa n = l := by
  unfold pv at h
  split at h
  · rename_i hm
    obtain ⟨m, hp, hn⟩ := Option.map_eq_some_iff.1 h
    obtain ⟨h1, h2, h3⟩ := pnum_some hp
    have h3 := h3 rfl
    simp only [if_pos] at hn
    subst hn
    refine ⟨inRng_true (by omega) (by omega), ?_⟩
    unfold Lib.itoa
    rw [if_pos (by omega)]
    have : (-(m : Int)).natAbs = m := by omega
    rw [this, h2]
    cases l with
    | nil => cases hm
    | cons a r => simp at hm; subst hm; rfl
  · obtain ⟨m, hp, hn⟩ := Option.map_eq_some_iff.1 h
    obtain ⟨h1, h2, _⟩ := pnum_some hp
    simp at hn
    subst hn
    refine ⟨inRng_true (by omega) (by omega), ?_⟩
    unfold Lib.itoa
    rw [if_neg (by omega)]
    simpa using h2
theorem dec_head {u : Nat} (h : 1 ≤ u) : (Lib.decDigits u).head? ≠ some 48 := by
  induction u using Nat.strongRecOn with
  | _ u ih =>
    rw [Lib.decDigits]
    split
    · rename_i hu
      intro e
      have e := congrArg UInt8.toNat (Option.some.inj e)
      rw [u8_digit hu] at e
      have t : (48 : UInt8).toNat = 48 := rfl
      omega
    · rename_i hu
      have hne := dec_ne (u / 10)
      have := ih (u / 10) (by omega) (by omega)
      cases hd : Lib.decDigits (u / 10) with
      | nil => exact absurd hd hne
      | cons a r => rw [hd] at this; simpa using this
theorem dec_len {u : Nat} (h : u ≤ 2147483647) : (Lib.decDigits u).length ≤ 10 := by
  rw [Lib.decDigits_length]; exact nDigits_le 10 u (by omega) (by omega)
theorem dec_len0 (u : Nat) : ¬ (Lib.decDigits u).length = 0 := fun h => dec_ne u (List.eq_nil_of_length_eq_zero h)
theorem dec_head45 (u : Nat) : (Lib.decDigits u).head? ≠ some 45 := by
  have hd := dec_digits u
  cases hl : Lib.decDigits u with
  | nil => simp
  | cons a r =>
    rw [hl] at hd
    have := hd a (by simp)
    intro e
    simp at e
    subst e
    simp at this
/-- a number's decimal text is read as it. -/
theorem pv_itoa {n : Int} (h : inRng n = true) : pv (Lib.itoa n) = some n := by
  obtain ⟨h1, h2⟩ := inRng_iff.1 h
  unfold Lib.itoa
  split
  · rename_i hn
    have hl := dec_len (u := n.natAbs) (by omega)
    have hl0 := dec_len0 n.natAbs
    have hh := dec_head (u := n.natAbs) (by omega)
    have : pnum true (Lib.decDigits n.natAbs) = some n.natAbs := by
      unfold pnum
      rw [if_neg (by omega), if_neg (fun x => hh x.1), decFrom_dec]
      simp only [if_pos (show n.natAbs ≤ 2147483647 by omega)]
    simp only [pv, List.head?_cons, List.tail_cons, if_pos, this, signed, Option.map_some]
    simp; omega
  · rename_i hn
    have hl := dec_len (u := n.toNat) (by omega)
    have hl0 := dec_len0 n.toNat
    have hz : ¬ ((Lib.decDigits n.toNat).head? = some 48 ∧ (1 < (Lib.decDigits n.toNat).length ∨ false = true)) := by
      rintro ⟨x, y | y⟩
      · rcases Nat.eq_zero_or_pos n.toNat with h0 | h0
        · rw [h0, Lib.decDigits_one (by omega)] at y; simp at y
        · exact dec_head h0 x
      · cases y
    have : pnum false (Lib.decDigits n.toNat) = some n.toNat := by
      unfold pnum
      rw [if_neg (by omega), if_neg hz, decFrom_dec]
      simp only [if_pos (show n.toNat ≤ 2147483647 by omega)]
    simp only [pv, if_neg (dec_head45 _), this, signed, Option.map_some]
    simp; omega

theorem Parse_some (s : ByteArray) (w : World) (hs : s.size ≤ maxLen) (hs2 : s.size ≤ 281474976710656) (hm : isName s.data.toList = false) (n : Int) (hp : pv s.data.toList = some n) (hT : Tabs w) :
    Calls Tryz.prog 103 #[.string s] w fun e w' => e = .returned (.tuple #[vv 1 n noText, .nilIface]) ∧ Below w.heap.size w w' := by
  obtain ⟨hn, he⟩ := pv_some hp
  have hx : itoaB n = s := by
    apply ByteArray.ext
    show (Lib.itoa n).toArray = s.data
    rw [he]
  exact Parse_num s w hs hs2 hm n (by rw [← hx]; exact atoi_num hn) hn hx hT.1
theorem Parse_none (s : ByteArray) (w : World) (hs : s.size ≤ maxLen) (hs2 : s.size ≤ 281474976710656) (hm : isName s.data.toList = false) (hp : pv s.data.toList = none) (hT : Tabs w) :
    Calls Tryz.prog 103 #[.string s] w fun e w' => e = .returned (.tuple #[vv 0 0 noText, eno 2]) ∧ Below w.heap.size w w' := by
  by_cases ha : ∃ n, Lib.atoiAll s.data.toList = .ok n
  · obtain ⟨n, ha⟩ := ha
    cases hn : inRng n with
    | false => exact Parse_over s w hs hs2 hm n ha hn
    | true =>
      refine Parse_other s w hs hs2 hm n ha hn ?_ hT.1
      cases hx : (itoaB n).toList == s.toList with
      | false => rfl
      | true =>
        exfalso
        have e := toList_inj (beq_iff_eq.1 hx)
        have e2 : s.data.toList = Lib.itoa n := by rw [← e]; rfl
        rw [e2, pv_itoa hn] at hp
        cases hp
  · exact Parse_bad s w hs hs2 hm (fun n h => ha ⟨n, h⟩) hT

end Go.Proofs.YtlfakhjcpdkaiaaGreatDoor
