/- Where a tuple stands: list, find, Has. Conditions: lengths below Go's longest. -/
import Derived.Test.YtbahmkhnnahddaaRelA
namespace Go.Proofs.Ytbahmkhnnahddaa
open Go.RowKit Go.Deep

/-- the value of a pointer to a relation that is there. -/
abbrev rp (b : Nat) : Value := .pointer (some ⟨b, 0, none⟩)
theorem Own.cell0 {w : World} {g : Nat} {e : TypeId} {x y : Value} (h : Own w g e [x, y]) : w.cell? ⟨g, 0, none⟩ = some x := h.cell 0
theorem Own.cell1 {w : World} {g : Nat} {e : TypeId} {x y : Value} (h : Own w g e [x, y]) : w.cell? ⟨g, 1, none⟩ = some y := h.cell 1

set_option maxRecDepth 100000 in
set_option maxHeartbeats 400000 in
theorem list_nil (w : World) : Calls Try.prog 60 #[.pointer none] w fun e w' => e = .returned (.slice none 0 0) ∧ w = w' := by
  go_enter Try.func60, Try.ntmps60
  go_wp2
  go_ret
  exact ⟨rfl, rfl⟩
set_option maxRecDepth 100000 in
set_option maxHeartbeats 400000 in
theorem list_at (b : Nat) (a : Int) (v : Value) (w : World) (ho : Own w b 77 [.int .i64 a, v]) (A : Option Addr) (n c : Nat) (hv : v = .slice A n c) : Calls Try.prog 60 #[rp b] w fun e w' => e = .returned v ∧ w = w' := by
  subst hv
  have h1 := ho.cell1
  have q1 := ho.lt
  clear ho
  go_enter Try.func60, Try.ntmps60
  go_wp2
  go_ret
  exact ⟨rfl, rfl⟩

/-- whether the one at the place is the one looked for. -/
def fndT (L : List (List V3)) (x : List V3) : Bool := L.any fun y => decide (cmpT y x = 0)
theorem fnd_iff {L : List (List V3)} {x : List V3} : fndT L x = true ↔ x ∈ L := by
  unfold fndT
  rw [List.any_eq_true]
  constructor
  · rintro ⟨y, h1, h2⟩
    rw [← cmpT_eq (of_decide_eq_true h2)]
    exact h1
  · intro h
    exact ⟨x, h, by simp [cmpT_self]⟩
theorem fnd_not {L : List (List V3)} {x : List V3} : fndT L x = false ↔ x ∉ L := by
  rw [← fnd_iff]
  simp
/-- lengths that Go's own can hold. -/
def Fits (ts : List TV) : Prop := ∀ t ∈ ts, t.2.2.length ≤ maxLen

theorem below_pos {L : List (List V3)} (hs : Sor L) {x : List V3} {i : Nat} (hi : i < posT L x) : ∃ h : i < L.length, cmpT L[i] x < 0 := by
  have h1 := posT_le L x
  have hlt : i < L.length := by omega
  refine ⟨hlt, (sor_ahead hs x).1 _ ?_⟩
  rw [List.mem_take_iff_getElem]
  exact ⟨i, by omega, rfl⟩
theorem above_pos {L : List (List V3)} (hs : Sor L) {x : List V3} {i : Nat} (hi : posT L x ≤ i) (hlt : i < L.length) : 0 ≤ cmpT L[i] x := by
  refine (sor_ahead hs x).2 _ ?_
  rw [List.mem_drop_iff_getElem]
  exact ⟨i - posT L x, by omega, by congr 1; omega⟩
theorem pos_above {L : List (List V3)} (hs : Sor L) {x : List V3} {i : Nat} (hlt : i < L.length) (h : cmpT L[i] x < 0) : i + 1 ≤ posT L x := by
  rcases Nat.lt_or_ge i (posT L x) with h1 | h1
  · exact h1
  · have := above_pos hs h1 hlt
    omega
theorem pos_below {L : List (List V3)} (hs : Sor L) {x : List V3} {i : Nat} (hlt : i < L.length) (h : ¬ cmpT L[i] x < 0) : posT L x ≤ i := by
  rcases Nat.lt_or_ge i (posT L x) with h1 | h1
  · obtain ⟨_, h2⟩ := below_pos hs h1
    exact absurd h2 h
  · exact h1

set_option maxRecDepth 100000 in
set_option maxHeartbeats 1000000 in
theorem Search_any (A : Option Addr) (c : Nat) (ts : List TV) (x : TV) (w : World) (hl : Lst [] w A ts) (hx : Row w x.1 x.2.2) (hxl : x.2.2.length ≤ maxLen) (hn : ts.length ≤ 2000) (hf : Fits ts) (hs : Sor (lists ts)) :
    Calls Try.prog 62 #[.slice A ts.length c, tval x, .func (.func 55) #[] #[]] w fun e w' => e = .returned (.tuple #[.int .i64 (posT (lists ts) x.2.2), .bool (fndT (lists ts) x.2.2)]) ∧ Below w.heap.size w w' := by
  obtain ⟨X, xc, xl⟩ := x
  simp only at hx hxl
  have HL := Lib.hid hl
  have HX := Lib.hid hx
  have HF := Lib.hid hf
  have HS := Lib.hid hs
  have HP := Lib.hid (posT_le (lists ts) xl)
  clear hl hx hf hs
  obtain ⟨p, hp⟩ : ∃ p, posT (lists ts) xl = p := ⟨_, rfl⟩
  have HPP := Lib.hid hp
  show Calls _ _ _ _ fun e w' => e = .returned (.tuple #[.int .i64 (posT (lists ts) xl), .bool (fndT (lists ts) xl)]) ∧ _
  rw [hp]
  rw [hp] at HP
  clear hp
  obtain ⟨q, hq⟩ : ∃ q, fndT (lists ts) xl = q := ⟨_, rfl⟩
  have HFQ := Lib.hid hq
  rw [hq]
  clear hq
  go_enter Try.func62, Try.ntmps62
  go_wp2
  go_loopw [9, 10] (fun s9 s10 wr => ∃ lo hi : Nat, s9 = .int .i64 lo ∧ s10 = .int .i64 hi ∧ lo ≤ hi ∧ hi ≤ ts.length ∧ Hid (lo ≤ p ∧ p ≤ hi) ∧ Hid (Below w.heap.size w wr)) (fun s9 s10 _ => ((intOf s10) - (intOf s9)).toNat)
  case atStart => exact ⟨0, ts.length, rfl, rfl, Nat.zero_le _, Nat.le_refl _, ⟨Nat.zero_le _, by simpa using HP.out⟩, Below.refl _ _⟩
  case round =>
    obtain ⟨lo, hi, rfl, rfl, hlh, hhi, HI, HB⟩ := hrel
    by_cases hlt : lo < hi
    · have hm : (lo + hi) / 2 < ts.length := by omega
      obtain ⟨g, o, rfl, hgw, _, hc, hr⟩ := HL.out.at_ hm
      have hfl := HF.out _ (List.getElem_mem hm)
      have hm' : (lo + hi) / 2 < (lists ts).length := by simpa using hm
      have HA := Lib.hid (fun h => pos_above HS.out (x := xl) hm' h)
      have HC := Lib.hid (fun h => pos_below HS.out (x := xl) hm' h)
      have e : (lists ts)[(lo + hi) / 2] = ts[(lo + hi) / 2].2.2 := by simp
      rw [e, HPP.out] at HA HC
      clear e
      generalize ts[(lo + hi) / 2] = t at hc hr hfl HA HC
      obtain ⟨T, tc, tl⟩ := t
      have hc := (HB.out.cell hgw).trans hc
      change wr.cell? ⟨g, o + (lo + hi) / 2, none⟩ = some (.slice T tl.length tc) at hc
      have cm := CompareT_any T X tc xc tl xl hfl hxl wr (hr.row.below (HB.out.mono (Nat.le_refl _))) (HX.out.below HB.out)
      have HCM := Lib.hid cm
      clear cm hr hfl
      simp only at HA HC
      go_wp2_with fail
      refine HCM.out.mono ?_
      rintro e w1 ⟨rfl, b1⟩
      have B1 := Lib.hid (HB.out.trans (b1.mono HB.out.size))
      clear b1 hc
      by_cases hq : cmpT tl xl < 0
      · have HQ := Lib.hid (HA.out hq)
        clear HA HC HCM
        generalize cmpT tl xl = r at hq
        go_wp2
        go_roundw
        case rel => exact ⟨(lo + hi) / 2 + 1, hi, by go_num, rfl, by omega, hhi, ⟨HQ.out, HI.out.2⟩, B1.out⟩
        case measure => simp [intOf]; omega
      · have HQ := Lib.hid (HC.out (by omega))
        clear HA HC HCM
        generalize cmpT tl xl = r at hq
        go_wp2
        go_roundw
        case rel => exact ⟨lo, (lo + hi) / 2, rfl, by go_num, by omega, by omega, ⟨HI.out.1, HQ.out⟩, B1.out⟩
        case measure => simp [intOf]; omega
    · have e : lo = hi := by omega
      subst e
      obtain rfl : lo = p := by have := HI.out; omega
      clear HI hlt
      by_cases hpl : lo < ts.length
      · obtain ⟨g, o, rfl, hgw, _, hc, hr⟩ := HL.out.at_ hpl
        have hfl := HF.out _ (List.getElem_mem hpl)
        have HFN := Lib.hid (sor_found HS.out xl)
        rw [HPP.out] at HFN
        have e : (lists ts)[lo]? = some ts[lo].2.2 := by simp [hpl]
        rw [e] at HFN
        clear e
        generalize ts[lo] = t at hc hr hfl HFN
        obtain ⟨T, tc, tl⟩ := t
        have hc := (HB.out.cell hgw).trans hc
        change wr.cell? ⟨g, o + lo, none⟩ = some (.slice T tl.length tc) at hc
        have cm := CompareT_any T X tc xc tl xl hfl hxl wr (hr.row.below HB.out) (HX.out.below HB.out)
        have HCM := Lib.hid cm
        clear cm hr hfl
        have HQ : Hid (decide (cmpT tl xl = 0) = q) := by
          show _ = _
          have h := HFN.out
          rw [← HFQ.out, Bool.eq_iff_iff, fnd_iff, ← h, decide_eq_true_eq]
          constructor
          · intro h0
            exact ⟨by simpa using hpl, by rw [cmpT_eq h0]⟩
          · rintro ⟨_, h0⟩
            injection h0 with h0
            simp only at h0
            rw [h0, cmpT_self]
        clear HFN
        go_wp2_with fail
        refine HCM.out.mono ?_
        rintro e w1 ⟨rfl, b1⟩
        have B1 := Lib.hid (HB.out.trans (b1.mono HB.out.size))
        clear b1 hc
        generalize cmpT tl xl = r at HQ
        go_wp2
        refine bodyPost_ret (v := .tuple #[.int .i64 lo, .bool q]) ?_ rfl ⟨rfl, B1.out⟩
        have hq : (r == 0) = q := by rw [← HQ.out]; by_cases h0 : r = 0 <;> simp [h0]
        simp [results, Try.results62, go_sem, ← hq]
      · have HQ : Hid (q = false) := by
          show _ = _
          rw [← HFQ.out, fnd_not, ← sor_found HS.out xl, HPP.out]
          rintro ⟨h0, _⟩
          simp at h0
          omega
        go_wp2
        refine bodyPost_ret (v := .tuple #[.int .i64 lo, .bool q]) ?_ rfl ⟨rfl, HB.out⟩
        have hq := HQ.out
        subst hq
        simp [results, Try.results62, go_sem]
end Go.Proofs.Ytbahmkhnnahddaa
