/- The order of values, in plain words of integers and lists of bytes: it is antisymmetric, total and transitive. Conditions: none. -/
import Derived.Test.YtlfakhjcpdkaiaaGreatDoorValParts
import Derived.Test.YtlfakhjcpdkaiaaGreatDoorValCmp
namespace Go.Proofs.YtlfakhjcpdkaiaaGreatDoor
open Go.RowKit

theorem bl_irrefl : ∀ x : List UInt8, Op.bytesLess x x = false
  | [] => rfl
  | a :: x => by simp [Op.bytesLess, bl_irrefl x, UInt8.lt_irrefl]
theorem bl_trans : ∀ x y z : List UInt8, Op.bytesLess x y = true → Op.bytesLess y z = true → Op.bytesLess x z = true
  | _, _, [] => fun _ h => by simp [Op.bytesLess] at h
  | _, [], _ :: _ => fun h _ => by simp [Op.bytesLess] at h
  | [], _ :: _, _ :: _ => fun _ _ => rfl
  | a :: x, b :: y, c :: z => fun h1 h2 => by
    simp only [Op.bytesLess, Bool.or_eq_true, Bool.and_eq_true, decide_eq_true_eq, beq_iff_eq] at h1 h2 ⊢
    rcases h1 with h1 | ⟨rfl, h1⟩
    · rcases h2 with h2 | ⟨rfl, _⟩
      · exact .inl (UInt8.lt_trans h1 h2)
      · exact .inl h1
    · rcases h2 with h2 | ⟨rfl, h2⟩
      · exact .inl h2
      · exact .inr ⟨rfl, bl_trans x y z h1 h2⟩
theorem bl_total : ∀ x y : List UInt8, Op.bytesLess x y = false → Op.bytesLess y x = false → x = y
  | [], [] => fun _ _ => rfl
  | [], _ :: _ => fun h _ => by simp [Op.bytesLess] at h
  | _ :: _, [] => fun _ h => by simp [Op.bytesLess] at h
  | a :: x, b :: y => fun h1 h2 => by
    simp only [Op.bytesLess, Bool.or_eq_false_iff, decide_eq_false_iff_not, Bool.and_eq_false_iff] at h1 h2
    obtain ⟨h1, h3⟩ := h1
    obtain ⟨h2, h4⟩ := h2
    have hab : a = b := UInt8.le_antisymm (UInt8.not_lt.1 h2) (UInt8.not_lt.1 h1)
    subst hab
    simp only [beq_self_eq_true, Bool.true_eq_false, false_or] at h3 h4
    rw [bl_total x y h3 h4]

theorem cmpI_cases (a b : Int) : cmpI a b = -1 ∧ a < b ∨ cmpI a b = 1 ∧ b < a ∨ cmpI a b = 0 ∧ a = b := by
  have hc : a < b ∨ ¬ a < b ∧ b < a ∨ ¬ a < b ∧ ¬ b < a := by omega
  rcases hc with h | ⟨h, h'⟩ | ⟨h, h'⟩
  · exact .inl ⟨by simp [cmpI, h], h⟩
  · exact .inr (.inl ⟨by simp [cmpI, h, h'], h'⟩)
  · exact .inr (.inr ⟨by simp [cmpI, h, h'], by omega⟩)
theorem cmpS_cases (a b : ByteArray) : cmpS a b = -1 ∧ Op.bytesLess a.toList b.toList = true ∨ cmpS a b = 1 ∧ Op.bytesLess b.toList a.toList = true ∨ cmpS a b = 0 ∧ a.toList = b.toList := by
  cases h1 : Op.bytesLess a.toList b.toList with
  | true => exact .inl ⟨by simp [cmpS, h1], rfl⟩
  | false =>
    by_cases he : a.toList = b.toList
    · refine .inr (.inr ⟨?_, he⟩)
      have hb : (!a.toList == b.toList) = false := by simp [he]
      simp only [cmpS, h1, hb]; rfl
    · refine .inr (.inl ⟨?_, ?_⟩)
      · have hb : (!a.toList == b.toList) = true := by simp [he]
        simp only [cmpS, h1, hb]; rfl
      · cases h2 : Op.bytesLess b.toList a.toList with
        | true => rfl
        | false => exact absurd (bl_total _ _ h1 h2) he
theorem bl_asymm {x y : List UInt8} (h : Op.bytesLess x y = true) : Op.bytesLess y x = false := by
  cases h2 : Op.bytesLess y x with
  | false => rfl
  | true => have := bl_trans _ _ _ h h2; rw [bl_irrefl] at this; cases this

theorem toList_inj {a b : ByteArray} (h : a.toList = b.toList) : a = b := by
  rw [Lib.toList_data, Lib.toList_data] at h
  cases a; cases b
  congr 1
  exact Array.toList_inj.1 h

/-- 'a stands before b'. -/
def Bef (k n : Int) (s : ByteArray) (k' n' : Int) (s' : ByteArray) : Prop := k < k' ∨ k = k' ∧ (n < n' ∨ n = n' ∧ Op.bytesLess s.toList s'.toList = true)

theorem or3_eq (a b c : Int) : or3 a b c = if a = 0 then (if b = 0 then c else b) else a := by
  unfold or3
  by_cases ha : a = 0 <;> by_cases hb : b = 0 <;> simp [ha, hb]

theorem cmpV_cases (k n : Int) (s : ByteArray) (k' n' : Int) (s' : ByteArray) :
    cmpV k n s k' n' s' = -1 ∧ Bef k n s k' n' s' ∨ cmpV k n s k' n' s' = 1 ∧ Bef k' n' s' k n s ∨ cmpV k n s k' n' s' = 0 ∧ k = k' ∧ n = n' ∧ s = s' := by
  unfold cmpV
  rw [or3_eq]
  rcases cmpI_cases k k' with ⟨e, h⟩ | ⟨e, h⟩ | ⟨e, h⟩
  · rw [e]; exact .inl ⟨rfl, .inl h⟩
  · rw [e]; exact .inr (.inl ⟨rfl, .inl h⟩)
  · subst h
    rw [e]
    rcases cmpI_cases n n' with ⟨e, h⟩ | ⟨e, h⟩ | ⟨e, h⟩
    · rw [e]; exact .inl ⟨rfl, .inr ⟨rfl, .inl h⟩⟩
    · rw [e]; exact .inr (.inl ⟨rfl, .inr ⟨rfl, .inl h⟩⟩)
    · subst h
      rw [e]
      rcases cmpS_cases s s' with ⟨e, h⟩ | ⟨e, h⟩ | ⟨e, h⟩
      · rw [e]; exact .inl ⟨rfl, .inr ⟨rfl, .inr ⟨rfl, h⟩⟩⟩
      · rw [e]; exact .inr (.inl ⟨rfl, .inr ⟨rfl, .inr ⟨rfl, h⟩⟩⟩)
      · rw [e]; exact .inr (.inr ⟨rfl, rfl, rfl, toList_inj h⟩)

theorem Bef.irrefl {k n : Int} {s : ByteArray} (h : Bef k n s k n s) : False := by
  rcases h with h | ⟨_, h | ⟨_, h⟩⟩
  · omega
  · omega
  · rw [bl_irrefl] at h; cases h
theorem Bef.trans {k1 n1 k2 n2 k3 n3 : Int} {s1 s2 s3 : ByteArray} (h : Bef k1 n1 s1 k2 n2 s2) (h' : Bef k2 n2 s2 k3 n3 s3) : Bef k1 n1 s1 k3 n3 s3 := by
  rcases h with h | ⟨rfl, h | ⟨rfl, h⟩⟩
  · rcases h' with h' | ⟨rfl, _⟩
    · exact .inl (by omega)
    · exact .inl h
  · rcases h' with h' | ⟨rfl, h' | ⟨rfl, _⟩⟩
    · exact .inl h'
    · exact .inr ⟨rfl, .inl (by omega)⟩
    · exact .inr ⟨rfl, .inl h⟩
  · rcases h' with h' | ⟨rfl, h' | ⟨rfl, h'⟩⟩
    · exact .inl h'
    · exact .inr ⟨rfl, .inl h'⟩
    · exact .inr ⟨rfl, .inr ⟨rfl, bl_trans _ _ _ h h'⟩⟩
theorem Bef.asymm {k n k' n' : Int} {s s' : ByteArray} (h : Bef k n s k' n' s') (h' : Bef k' n' s' k n s) : False := (h.trans h').irrefl

theorem lessV_true {k n : Int} {s : ByteArray} {k' n' : Int} {s' : ByteArray} (h : Bef k n s k' n' s') : lessV k n s k' n' s' = true := by
  unfold lessV
  rcases h with h | ⟨rfl, h | ⟨rfl, h⟩⟩
  · have : (k != k') = true := by simp; omega
    rw [this]; simpa using h
  · have : (n != n') = true := by simp; omega
    rw [this]; simpa using h
  · simpa using h
theorem lessV_iff {k n : Int} {s : ByteArray} {k' n' : Int} {s' : ByteArray} (h : lessV k n s k' n' s' = true) : Bef k n s k' n' s' := by
  unfold lessV at h
  by_cases hk : k = k'
  · subst hk
    by_cases hn : n = n'
    · subst hn; simp at h; exact .inr ⟨rfl, .inr ⟨rfl, h⟩⟩
    · have : (n != n') = true := by simpa using hn
      rw [this] at h; simp at h; exact .inr ⟨rfl, .inl h⟩
  · have : (k != k') = true := by simpa using hk
    rw [this] at h; simp at h; exact .inl h
theorem lessV_false {k n : Int} {s : ByteArray} {k' n' : Int} {s' : ByteArray} (h : ¬ Bef k n s k' n' s') : lessV k n s k' n' s' = false := by
  cases hl : lessV k n s k' n' s' with
  | false => rfl
  | true => exact absurd (lessV_iff hl) h

theorem cmpV_of_bef {k n : Int} {s : ByteArray} {k' n' : Int} {s' : ByteArray} (h : Bef k n s k' n' s') : cmpV k n s k' n' s' = -1 := by
  rcases cmpV_cases k n s k' n' s' with ⟨e, _⟩ | ⟨_, g⟩ | ⟨_, rfl, rfl, rfl⟩
  · exact e
  · exact (h.asymm g).elim
  · exact h.irrefl.elim
theorem cmpV_of_aft {k n : Int} {s : ByteArray} {k' n' : Int} {s' : ByteArray} (h : Bef k' n' s' k n s) : cmpV k n s k' n' s' = 1 := by
  rcases cmpV_cases k n s k' n' s' with ⟨_, g⟩ | ⟨e, _⟩ | ⟨_, rfl, rfl, rfl⟩
  · exact (h.asymm g).elim
  · exact e
  · exact h.irrefl.elim
theorem cmpV_self (k n : Int) (s : ByteArray) : cmpV k n s k n s = 0 := by
  rcases cmpV_cases k n s k n s with ⟨_, g⟩ | ⟨_, g⟩ | ⟨e, _⟩
  · exact g.irrefl.elim
  · exact g.irrefl.elim
  · exact e
theorem cmpV_trans {k1 n1 k2 n2 k3 n3 : Int} {s1 s2 s3 : ByteArray} (h : cmpV k1 n1 s1 k2 n2 s2 ≤ 0) (h' : cmpV k2 n2 s2 k3 n3 s3 ≤ 0) : cmpV k1 n1 s1 k3 n3 s3 ≤ 0 := by
  rcases cmpV_cases k1 n1 s1 k2 n2 s2 with ⟨e, g⟩ | ⟨e, g⟩ | ⟨e, rfl, rfl, rfl⟩
  · rcases cmpV_cases k2 n2 s2 k3 n3 s3 with ⟨e', g'⟩ | ⟨e', g'⟩ | ⟨e', rfl, rfl, rfl⟩
    · rw [cmpV_of_bef (g.trans g')]; omega
    · omega
    · omega
  · omega
  · exact h'

end Go.Proofs.YtlfakhjcpdkaiaaGreatDoor
