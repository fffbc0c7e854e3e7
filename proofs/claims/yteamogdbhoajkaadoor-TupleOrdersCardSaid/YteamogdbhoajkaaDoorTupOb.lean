/- TupleOrders' walk for every three tuples: which stands ahead of which is an order. Conditions: as the ways'. -/
import Derived.Test.YteamogdbhoajkaaDoorTupOa
namespace Go.Proofs.YteamogdbhoajkaaDoor
open Go.RowKit Go.Deep

abbrev Bef3 (x y : V3) : Prop := Bef x.1 x.2.1 x.2.2 y.1 y.2.1 y.2.2
theorem cmp3_cases (x y : V3) : cmp3 x y = -1 ∧ Bef3 x y ∨ cmp3 x y = 1 ∧ Bef3 y x ∨ cmp3 x y = 0 ∧ x = y := by
  rcases cmpV_cases x.1 x.2.1 x.2.2 y.1 y.2.1 y.2.2 with h | h | ⟨h, e1, e2, e3⟩
  · exact .inl h
  · exact .inr (.inl h)
  · refine .inr (.inr ⟨h, ?_⟩)
    obtain ⟨a, b, c⟩ := x
    obtain ⟨d, e, f⟩ := y
    simp only at e1 e2 e3
    rw [e1, e2, e3]
/-- three ways for two tuples. -/
theorem tup_cases : ∀ a b : List V3, cmpT a b = -1 ∧ cmpT b a = 1 ∧ lessT a b = true ∧ lessT b a = false ∨ cmpT a b = 1 ∧ cmpT b a = -1 ∧ lessT a b = false ∧ lessT b a = true ∨ cmpT a b = 0 ∧ cmpT b a = 0 ∧ lessT a b = false ∧ lessT b a = false ∧ a = b
  | [], [] => .inr (.inr ⟨rfl, rfl, rfl, rfl, rfl⟩)
  | [], _ :: _ => .inl ⟨rfl, rfl, rfl, rfl⟩
  | _ :: _, [] => .inr (.inl ⟨rfl, rfl, rfl, rfl⟩)
  | x :: a, y :: b => by
    rcases cmp3_cases x y with ⟨h, hb⟩ | ⟨h, hb⟩ | ⟨h, rfl⟩
    · have h' : cmp3 y x = 1 := cmpV_of_aft hb
      have hne : x ≠ y := by rintro rfl; exact hb.irrefl
      refine .inl ⟨?_, ?_, ?_, ?_⟩
      · simp [cmpT, h]
      · simp [cmpT, h']
      · simp only [lessT, if_neg hne]; exact lessV_true hb
      · simp only [lessT, if_neg (Ne.symm hne)]; exact lessV_false (fun h => hb.asymm h)
    · have h' : cmp3 y x = -1 := cmpV_of_bef hb
      have hne : x ≠ y := by rintro rfl; exact hb.irrefl
      refine .inr (.inl ⟨?_, ?_, ?_, ?_⟩)
      · simp [cmpT, h]
      · simp [cmpT, h']
      · simp only [lessT, if_neg hne]; exact lessV_false (fun h => hb.asymm h)
      · simp only [lessT, if_neg (Ne.symm hne)]; exact lessV_true hb
    · have e1 : cmpT (x :: a) (x :: b) = cmpT a b := by simp [cmpT, h]
      have e2 : cmpT (x :: b) (x :: a) = cmpT b a := by simp [cmpT, h]
      have e3 : lessT (x :: a) (x :: b) = lessT a b := by simp [lessT]
      have e4 : lessT (x :: b) (x :: a) = lessT b a := by simp [lessT]
      rw [e1, e2, e3, e4]
      rcases tup_cases a b with h | h | ⟨h1, h2, h3, h4, h5⟩
      · exact .inl h
      · exact .inr (.inl h)
      · exact .inr (.inr ⟨h1, h2, h3, h4, by rw [h5]⟩)
theorem tup_trans : ∀ a b d : List V3, cmpT a b ≤ 0 → cmpT b d ≤ 0 → cmpT a d ≤ 0
  | [], _, [], _, _ => by decide
  | [], _, _ :: _, _, _ => by simp [cmpT]
  | _ :: _, [], _, h, _ => by simp [cmpT] at h
  | _ :: _, _ :: _, [], _, h => by simp [cmpT] at h
  | x :: a, y :: b, z :: d, h1, h2 => by
    rcases cmp3_cases x y with ⟨e1, b1⟩ | ⟨e1, b1⟩ | ⟨e1, rfl⟩
    · rcases cmp3_cases y z with ⟨e2, b2⟩ | ⟨e2, b2⟩ | ⟨e2, rfl⟩
      · have e3 : cmp3 x z = -1 := cmpV_of_bef (b1.trans b2)
        simp [cmpT, e3]
      · simp [cmpT, e2] at h2
      · simp [cmpT, e1]
    · simp [cmpT, e1] at h1
    · simp only [cmpT] at h2 ⊢
      have h1' : cmpT a b ≤ 0 := by simpa [cmpT, e1] using h1
      rcases cmp3_cases x z with ⟨e2, _⟩ | ⟨e2, _⟩ | ⟨e2, _⟩
      · simp [e2]
      · simp [e2] at h2
      · simp [e2] at h2 ⊢
        exact tup_trans a b d h1' h2

theorem orders_walk (hal : AliveOk) (A A' A2 : Option Addr) (c c' c2 : Nat) (a b d : List V3) (hl : a.length ≤ maxLen) (hl' : b.length ≤ maxLen) (hl2 : d.length ≤ maxLen) (hn : A = none → c = 0) (hn' : A' = none → c' = 0) (hi : Inb a) (hi' : Inb b) (hi2 : Inb d)
    (w : World) (hT : Tab w) (hr : Row w A a) (hr' : Row w A' b) (hr2 : Row w A2 d) :
    Calls Tryd.prog 5 #[.slice A a.length c, .slice A' b.length c', .slice A2 d.length c2] w fun e w' => e = .returned (.bool true) ∧ Below w.heap.size w w' := by
  rcases tup_cases a b with ⟨h1, h2, h3, h4⟩ | ⟨h1, h2, h3, h4⟩ | ⟨h1, h2, h3, h4, _⟩
  · by_cases hq : cmpT b d ≤ 0
    · have hs := tup_trans a b d (by omega) hq
      by_cases h6 : (6 : Int) < (a.length : Int) + (b.length : Int)
      · exact orders_lt_le_many hal A A' A2 c c' c2 a b d hl hl' hl2 hn hn' hi hi' hi2 h3 h4 h1 h2 hq hs h6 w hT hr hr' hr2
      · exact orders_lt_le_few hal A A' A2 c c' c2 a b d hl hl' hl2 hn hn' hi hi' hi2 h3 h4 h1 h2 hq hs h6 w hT hr hr' hr2
    · by_cases h6 : (6 : Int) < (a.length : Int) + (b.length : Int)
      · exact orders_lt_gt_many hal A A' A2 c c' c2 a b d hl hl' hl2 hn hn' hi hi' hi2 h3 h4 h1 h2 (by omega) h6 w hT hr hr' hr2
      · exact orders_lt_gt_few hal A A' A2 c c' c2 a b d hl hl' hl2 hn hn' hi hi' hi2 h3 h4 h1 h2 (by omega) h6 w hT hr hr' hr2
  · by_cases h6 : (6 : Int) < (a.length : Int) + (b.length : Int)
    · exact orders_gt_many hal A A' A2 c c' c2 a b d hl hl' hl2 hn hn' hi hi' hi2 h3 h4 h1 h2 h6 w hT hr hr' hr2
    · exact orders_gt_few hal A A' A2 c c' c2 a b d hl hl' hl2 hn hn' hi hi' hi2 h3 h4 h1 h2 h6 w hT hr hr' hr2
  · by_cases hq : cmpT b d ≤ 0
    · have hs := tup_trans a b d (by omega) hq
      by_cases h6 : (6 : Int) < (a.length : Int) + (b.length : Int)
      · exact orders_eq_le_many hal A A' A2 c c' c2 a b d hl hl' hl2 hn hn' hi hi' hi2 h3 h4 h1 h2 hq hs h6 w hT hr hr' hr2
      · exact orders_eq_le_few hal A A' A2 c c' c2 a b d hl hl' hl2 hn hn' hi hi' hi2 h3 h4 h1 h2 hq hs h6 w hT hr hr' hr2
    · by_cases h6 : (6 : Int) < (a.length : Int) + (b.length : Int)
      · exact orders_eq_gt_many hal A A' A2 c c' c2 a b d hl hl' hl2 hn hn' hi hi' hi2 h3 h4 h1 h2 (by omega) h6 w hT hr hr' hr2
      · exact orders_eq_gt_few hal A A' A2 c c' c2 a b d hl hl' hl2 hn hn' hi hi' hi2 h3 h4 h1 h2 (by omega) h6 w hT hr hr' hr2
end Go.Proofs.YteamogdbhoajkaaDoor
