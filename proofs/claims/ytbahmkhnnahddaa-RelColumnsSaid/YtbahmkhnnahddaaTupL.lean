/- The laws' own look at the sizes (corollarylaw02.Long): where it says no, every tuple is short and so is every text. Conditions: each text within the form's reach. -/
import Derived.Test.YtbahmkhnnahddaaTupC
namespace Go.Proofs.Ytbahmkhnnahddaa
open Go.RowKit Go.Deep

/-- texts of at most 2000 bytes. -/
def Short (l : List V3) : Prop := ∀ x ∈ l, x.2.2.size ≤ 2000
theorem Short.fit {l : List V3} (h : Short l) : Fit l := fun x hx => by have := h x hx; unfold maxLen; omega
theorem Short.take {l : List V3} (h : Short l) (k : Nat) : Short (l.take k) := fun x hx => h x (List.mem_of_mem_take hx)
theorem right_six {l : List V3} (h : rightT l = true) : l.length ≤ 6 := by
  simp only [rightT, Bool.and_eq_true, decide_eq_true_eq] at h
  exact h.1
/-- texts within the reach. -/
def Inb (l : List V3) : Prop := ∀ x ∈ l, x.2.2.size ≤ 140737488351232
/-- a tuple as a value: where it lies, its capacity, its values. -/
abbrev TV := Option Addr × Nat × List V3
abbrev tval (t : TV) : Value := .slice t.1 t.2.2.length t.2.1
def Small (t : TV) : Prop := t.2.2.length ≤ 50 ∧ Short t.2.2
def LongPost (w : World) (ts : List TV) (e : Ending) (w' : World) : Prop := ∃ r : Bool, e = .returned (.bool r) ∧ (r = false → ∀ t ∈ ts, Small t) ∧ Below w.heap.size w w'
theorem small_snoc {ts : List TV} {j : Nat} (hj : j < ts.length) (h : ∀ t ∈ ts.take j, Small t) (ht : Small ts[j]) : ∀ t ∈ ts.take (j + 1), Small t := by
  rw [List.take_succ_eq_append_getElem hj]
  intro t h1
  rcases List.mem_append.1 h1 with h1 | h1
  · exact h t h1
  · simp only [List.mem_singleton] at h1
    subst h1
    exact ht
theorem short_snoc {l : List V3} {k : Nat} (hk : k < l.length) (h : Short (l.take k)) (hx : l[k].2.2.size ≤ 2000) : Short (l.take (k + 1)) := by
  unfold Short
  rw [List.take_succ_eq_append_getElem hk]
  intro t h1
  rcases List.mem_append.1 h1 with h1 | h1
  · exact h t h1
  · simp only [List.mem_singleton] at h1
    subst h1
    exact hx

set_option maxRecDepth 100000 in
set_option maxHeartbeats 400000 in
theorem Long_any (B cap : Nat) (ts : List TV) (hn : ts.length ≤ 10) (w : World) (hB : B < w.heap.size) (hcells : ∀ j t, ts[j]? = some t → w.cell? ⟨B, j, none⟩ = some (tval t))
    (hrows : ∀ t ∈ ts, Row w t.1 t.2.2 ∧ Inb t.2.2 ∧ t.2.2.length ≤ maxLen) :
    Calls Try.prog 11 #[.slice (some ⟨B, 0, none⟩) ts.length cap] w fun e w' => LongPost w ts e w' := by
  have HC := Lib.hid hcells
  have HR := Lib.hid hrows
  clear hcells hrows
  go_enter Try.func11, Try.ntmps11
  go_wp2
  go_loopw [3, 10] (fun n i wr => ∃ j : Nat, j ≤ ts.length ∧ i = .int .i64 j ∧ (∃ y : Int, n = .int .i64 y ∧ 0 ≤ y ∧ y ≤ 2000) ∧ Hid (∀ t ∈ ts.take j, Small t) ∧ Hid (Below w.heap.size w wr)) (fun _ i _ => ts.length - (intOf i).toNat)
  case atStart => exact ⟨0, Nat.zero_le _, rfl, ⟨0, rfl, by omega, by omega⟩, by intro t ht; simp at ht, Below.refl _ _⟩
  case round =>
    obtain ⟨j, hj, rfl, ⟨y, rfl, hy0, hy1⟩, HS, HB⟩ := hrel
    obtain ⟨wo, rfl⟩ : ∃ wo : World, wo = wr := ⟨_, rfl⟩
    by_cases hlt : j < ts.length
    · have HSS := Lib.hid (small_snoc hlt HS.out)
      have hct := HC.out j _ (List.getElem?_eq_getElem hlt)
      have hrt := HR.out ts[j] (List.getElem_mem hlt)
      generalize ts[j] = t at HSS hct hrt
      obtain ⟨A, c, l⟩ := t
      have hcell := (HB.out.cell hB).trans hct
      obtain ⟨h1, h2, hlm⟩ := hrt
      simp only at h1 h2 hlm
      change wo.cell? ⟨B, j, none⟩ = some (.slice A l.length c) at hcell
      unfold maxLen at hlm
      have HRow := Lib.hid h1
      have HIn := Lib.hid h2
      clear h1 h2 hct
      by_cases h50 : (50 : Int) < (l.length : Int)
      · go_wp2
        go_ret
        exact ⟨true, rfl, (fun h => by cases h), HB.out⟩
      · go_wp2
        go_loopw [3, 19] (fun n i wr => ∃ k : Nat, k ≤ l.length ∧ i = .int .i64 k ∧ (∃ y : Int, n = .int .i64 y ∧ 0 ≤ y ∧ y ≤ 2000) ∧ Hid (Short (l.take k)) ∧ Hid (Below w.heap.size w wr)) (fun _ i _ => l.length - (intOf i).toNat)
        case atStart => exact ⟨0, Nat.zero_le _, rfl, ⟨y, rfl, hy0, hy1⟩, by intro t ht; simp at ht, HB.out⟩
        case round =>
          obtain ⟨k, hk, rfl, ⟨z, rfl, hz0, hz1⟩, HT, HBI⟩ := hrel
          by_cases hlk : k < l.length
          · obtain ⟨b, o, rfl, hbw, hc⟩ := HRow.out.at_ hlk
            have HTT := Lib.hid (short_snoc hlk HT.out)
            have hx := HIn.out l[k] (List.getElem_mem hlk)
            generalize l[k] = x at HTT hc hx
            obtain ⟨xk, xn, xs⟩ := x
            obtain ⟨c0, c1, c2⟩ := hc
            have c0 := (HBI.out.cell hbw).trans c0
            have c1 := (HBI.out.cell hbw).trans c1
            have c2 := (HBI.out.cell hbw).trans c2
            simp only at c0 c1 c2 hx
            have hxi : (xs.size : Int) ≤ 140737488351232 := by omega
            have hx0 : 0 ≤ (xs.size : Int) := by omega
            by_cases hbig : (2000 : Int) < z + (xs.size : Int)
            · go_wp2
              go_ret
              exact ⟨true, rfl, (fun h => by cases h), HBI.out.alloc HBI.out.size _⟩
            · have HQ := Lib.hid (HTT.out (by simp only; omega))
              go_wp2
              go_roundw
              case rel => exact ⟨k + 1, by omega, by go_num, ⟨_, rfl, by omega, by omega⟩, HQ.out, HBI.out.alloc HBI.out.size _⟩
              case measure => simp [intOf]; omega
          · have HQ := Lib.hid (HSS.out ⟨by simp only; omega, by simp only; have := HT.out; rwa [List.take_of_length_le (by omega)] at this⟩)
            go_wp2
            go_roundw
            case rel => exact ⟨j + 1, by omega, by go_num, ⟨z, rfl, hz0, hz1⟩, HQ.out, HBI.out⟩
            case measure => simp [intOf]; omega
    · have HQ := Lib.hid (show ∀ t ∈ ts, Small t by have := HS.out; rwa [List.take_of_length_le (by omega)] at this)
      go_wp2
      go_ret
      exact ⟨false, rfl, fun _ => HQ.out, HB.out⟩
end Go.Proofs.Ytbahmkhnnahddaa
