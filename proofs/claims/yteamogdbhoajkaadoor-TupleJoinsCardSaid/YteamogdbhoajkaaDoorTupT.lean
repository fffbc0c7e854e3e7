/- TupleTexts' walk: the law's own steps, for every tuple. Conditions: the library's table; texts within the form's reach; that the chapter's example is so (proved beside). -/
import Derived.Test.YteamogdbhoajkaaDoorTupH
namespace Go.Proofs.YteamogdbhoajkaaDoor
open Go.RowKit Go.Deep

/-- the chapter's example is so. -/
def AliveOk : Prop := ∀ w : World, Tab w → Calls Tryd.prog 8 #[] w fun e w' => e = .returned (.bool true) ∧ Below w.heap.size w w'

theorem Long1 (A : Option Addr) (c : Nat) (l : List V3) (B : Nat) (w : World) (hB : B < w.heap.size) (h0 : w.cell? ⟨B, 0, none⟩ = some (.slice A l.length c)) (hr : Row w A l) (hi : Inb l) (hl : l.length ≤ maxLen) :
    Calls Tryd.prog 9 #[.slice (some ⟨B, 0, none⟩) 1 1] w fun e w' => LongPost w [(A, c, l)] e w' := by
  refine Long_any B 1 [(A, c, l)] (by simp) w hB (fun j t ht => ?_) (fun t ht => ?_)
  · match j, ht with
    | 0, ht => simp at ht; subst ht; exact h0
  · simp at ht; subst ht; exact ⟨hr, hi, hl⟩
theorem Long2 (A A' : Option Addr) (c c' : Nat) (l l' : List V3) (B : Nat) (w : World) (hB : B < w.heap.size) (h0 : w.cell? ⟨B, 0, none⟩ = some (.slice A l.length c)) (h1 : w.cell? ⟨B, 1, none⟩ = some (.slice A' l'.length c'))
    (hr : Row w A l) (hi : Inb l) (hl : l.length ≤ maxLen) (hr' : Row w A' l') (hi' : Inb l') (hl' : l'.length ≤ maxLen) :
    Calls Tryd.prog 9 #[.slice (some ⟨B, 0, none⟩) 2 2] w fun e w' => LongPost w [(A, c, l), (A', c', l')] e w' := by
  refine Long_any B 2 [(A, c, l), (A', c', l')] (by simp) w hB (fun j t ht => ?_) (fun t ht => ?_)
  · match j, ht with
    | 0, ht => simp at ht; subst ht; exact h0
    | 1, ht => simp at ht; subst ht; exact h1
  · simp at ht
    rcases ht with rfl | rfl
    · exact ⟨hr, hi, hl⟩
    · exact ⟨hr', hi', hl'⟩
theorem Long3 (A A' A2 : Option Addr) (c c' c2 : Nat) (l l' l2 : List V3) (B : Nat) (w : World) (hB : B < w.heap.size) (h0 : w.cell? ⟨B, 0, none⟩ = some (.slice A l.length c)) (h1 : w.cell? ⟨B, 1, none⟩ = some (.slice A' l'.length c'))
    (h2 : w.cell? ⟨B, 2, none⟩ = some (.slice A2 l2.length c2)) (hr : Row w A l) (hi : Inb l) (hl : l.length ≤ maxLen) (hr' : Row w A' l') (hi' : Inb l') (hl' : l'.length ≤ maxLen) (hr2 : Row w A2 l2) (hi2 : Inb l2) (hl2 : l2.length ≤ maxLen) :
    Calls Tryd.prog 9 #[.slice (some ⟨B, 0, none⟩) 3 3] w fun e w' => LongPost w [(A, c, l), (A', c', l'), (A2, c2, l2)] e w' := by
  refine Long_any B 3 [(A, c, l), (A', c', l'), (A2, c2, l2)] (by simp) w hB (fun j t ht => ?_) (fun t ht => ?_)
  · match j, ht with
    | 0, ht => simp at ht; subst ht; exact h0
    | 1, ht => simp at ht; subst ht; exact h1
    | 2, ht => simp at ht; subst ht; exact h2
  · simp at ht
    rcases ht with rfl | rfl | rfl
    · exact ⟨hr, hi, hl⟩
    · exact ⟨hr', hi', hl'⟩
    · exact ⟨hr2, hi2, hl2⟩

set_option maxRecDepth 100000 in
set_option maxHeartbeats 2000000 in
theorem texts_walk (hal : AliveOk) (A : Option Addr) (c : Nat) (l : List V3) (hl : l.length ≤ maxLen) (hn : A = none → c = 0) (hi : Inb l) (w : World) (hT : Tab w) (hr : Row w A l) :
    Calls Tryd.prog 3 #[.slice A l.length c] w fun e w' => e = .returned (.bool true) ∧ Below w.heap.size w w' := by
  have HN := Lib.hid hn
  have HI := Lib.hid hi
  have HT := Lib.hid hT
  have HR := Lib.hid hr
  have HL := Lib.hid hl
  have HAL := Lib.hid hal
  clear hn hi hT hr hal hl
  go_enter Tryd.func3, Tryd.ntmps3
  go_wp2_with fail
  refine (HAL.out w HT.out).mono ?_
  rintro e w1 ⟨rfl, b1⟩
  have B1 := Lib.hid b1
  have BA := Lib.hid (b1.alloc b1.size (.cells #[.slice A l.length c] 23))
  have R1 := Lib.hid (HR.out.below BA.out)
  clear b1
  go_wp2_with fail
  refine (Long1 A c l _ _ (by simp) (by go_simp) R1.out HI.out HL.out).mono ?_
  rintro e w2 ⟨r, rfl, hsm, b2⟩
  have B2 := Lib.hid (BA.out.trans (b2.mono BA.out.size))
  have R2 := Lib.hid (HR.out.below B2.out)
  clear b2
  cases r with
  | true =>
    clear hsm
    go_wp2
    go_ret
    exact ⟨rfl, B2.out⟩
  | false =>
    obtain ⟨h50, hsh⟩ := hsm rfl (A, c, l) (by simp)
    have h50 : l.length ≤ 50 := h50
    have HSH : Hid (Short l) := hsh
    clear hsm hsh
    go_wp2_with fail
    refine (Kinds_any A c l HL.out (by omega) _ R2.out).mono ?_
    rintro e w3 ⟨rfl, ho, b3⟩
    have HO := Lib.hid ho
    have B3 := Lib.hid (B2.out.trans (b3.mono B2.out.size))
    clear ho b3
    go_wp2
    go_loopw [19] (fun j wr => ∃ k : Nat, k ≤ l.length ∧ j = .int .i64 k ∧ Hid (Below w3.heap.size w3 wr)) (fun j _ => l.length - (intOf j).toNat)
    case atStart => exact ⟨0, Nat.zero_le _, rfl, Below.refl _ _⟩
    case round =>
      obtain ⟨k, hk, rfl, HB⟩ := hrel
      have BR := Lib.hid (B3.out.trans (HB.out.mono B3.out.size))
      by_cases hlt : k < l.length
      · obtain ⟨b, o, rfl, hbw, hc⟩ := HR.out.at_ hlt
        have q0 := ((HO.out.below HB.out).cell k)
        rw [List.getElem?_map, List.getElem?_eq_getElem hlt] at q0
        simp only [Option.map_some] at q0
        generalize l[k] = x at hc q0
        obtain ⟨xk, xn, xs⟩ := x
        obtain ⟨c0, _, _⟩ := hc
        have c0 := (BR.out.cell hbw).trans c0
        simp only at c0 q0
        go_wp2_with fail
        go_quiet (fail)
        go_wp2
        go_roundw
        case rel => exact ⟨k + 1, by omega, by go_num, below_drewN HB.out nq⟩
        case measure => simp [intOf]; omega
      · have R4 := Lib.hid (HR.out.below BR.out)
        clear HO HB R2 R1
        obtain ⟨w4, hw4⟩ : ∃ w4 : World, w4 = wr := ⟨_, rfl⟩
        subst hw4
        go_wp2_with fail
        refine (TRight_any A c l HL.out HSH.out.fit _ R4.out).mono ?_
        rintro e w5 ⟨rfl, b5⟩
        have B5 := Lib.hid (BR.out.trans (b5.mono BR.out.size))
        have R5 := Lib.hid (HR.out.below B5.out)
        clear b5
        go_wp2_with fail
        refine (refTRight_any A c l HL.out HSH.out.fit _ R5.out).mono ?_
        rintro e w6 ⟨rfl, b6⟩
        have B6 := Lib.hid (B5.out.trans (b6.mono B5.out.size))
        have R6 := Lib.hid (HR.out.below B6.out)
        clear b6
        go_wp2_with fail
        refine (TextT_any A c l HL.out HSH.out _ (HT.out.below B6.out) R6.out).mono ?_
        rintro e w7 ⟨rfl, b7⟩
        have B7 := Lib.hid (B6.out.trans (b7.mono B6.out.size))
        have R7 := Lib.hid (HR.out.below B7.out)
        clear b7
        go_wp2_with fail
        refine (refTextT_any A c l HL.out HSH.out _ R7.out).mono ?_
        rintro e w8 ⟨rfl, b8⟩
        have B8 := Lib.hid (B7.out.trans (b8.mono B7.out.size))
        have R8 := Lib.hid (HR.out.below B8.out)
        clear b8
        go_wp2_with fail
        refine (HashT_any A c l HL.out HSH.out _ (HT.out.below B8.out) R8.out).mono ?_
        rintro e w9 ⟨rfl, b9⟩
        have B9 := Lib.hid (B8.out.trans (b9.mono B8.out.size))
        have R9 := Lib.hid (HR.out.below B9.out)
        clear b9
        go_wp2_with fail
        refine (refHashT_any A c l HL.out HSH.out _ R9.out).mono ?_
        rintro e wa ⟨rfl, ba⟩
        have Ba := Lib.hid (B9.out.trans (ba.mono B9.out.size))
        have Ra := Lib.hid (HR.out.below Ba.out)
        clear ba
        go_wp2_with fail
        refine (Copy_any A c l (by omega) HN.out _ Ra.out).mono ?_
        rintro e wb ⟨A2, c2, rfl, _, _, rb, bb⟩
        have Bb := Lib.hid (Ba.out.trans (bb.mono Ba.out.size))
        have Rb := Lib.hid (HR.out.below Bb.out)
        have Rc := Lib.hid rb
        clear bb rb
        go_wp2_with fail
        refine (Same_any A2 A c2 c l HL.out _ Rc.out Rb.out).mono ?_
        rintro e wc ⟨rfl, bc⟩
        have Bc := Lib.hid (Bb.out.trans (bc.mono Bb.out.size))
        clear bc
        go_wp2
        go_ret
        exact ⟨rfl, Bc.out⟩
end Go.Proofs.YteamogdbhoajkaaDoor
