/- The columns that are looked for: the closure of tuple.Pick. Conditions: none. -/
import Derived.Test.YtbahmkhnnahddaaTupH
namespace Go.Proofs.Ytbahmkhnnahddaa
open Go.RowKit Go.Deep

/-- numbers in a row. -/
def Cols (w : World) (C : Option Addr) (cs : List Int) : Prop :=
  0 < cs.length → ∃ b o, C = some ⟨b, o, none⟩ ∧ b < w.heap.size ∧ ∀ i z, cs[i]? = some z → w.cell? ⟨b, o + i, none⟩ = some (.int .i64 z)
theorem Cols.below {w w' : World} {C : Option Addr} {cs : List Int} (h : Cols w C cs) (hb : Below w.heap.size w w') : Cols w' C cs := by
  intro h0
  obtain ⟨b, o, rfl, hlt, hc⟩ := h h0
  exact ⟨b, o, rfl, Nat.lt_of_lt_of_le hlt hb.size, fun i z hz => (hb.cell hlt).trans (hc i z hz)⟩
theorem Cols.at_ {w : World} {C : Option Addr} {cs : List Int} (h : Cols w C cs) {k : Nat} (hk : k < cs.length) :
    ∃ b o, C = some ⟨b, o, none⟩ ∧ b < w.heap.size ∧ w.cell? ⟨b, o + k, none⟩ = some (.int .i64 cs[k]) := by
  obtain ⟨b, o, rfl, hb, hc⟩ := h (by omega)
  exact ⟨b, o, rfl, hb, hc k _ (List.getElem?_eq_getElem hk)⟩
/-- a column that isn't there. -/
def badC (n : Nat) (c : Int) : Bool := decide (c < 0) || decide ((n : Int) ≤ c)
set_option maxRecDepth 100000 in
set_option maxHeartbeats 400000 in
theorem missing_any (A : Option Addr) (c : Nat) (l : List V3) (B : Nat) (z : Int) (w : World) (h : w.cell? ⟨B, 0, none⟩ = some (.slice A l.length c)) :
    Calls Try.prog 73 #[.int .i64 z, .pointer (some ⟨B, 0, none⟩)] w fun e w' => e = .returned (.bool (badC l.length z)) ∧ w = w' := by
  by_cases h1 : z < 0
  · have e : badC l.length z = true := by simp [badC, h1]
    rw [e]
    clear e
    go_enter Try.func73, Try.ntmps73
    go_wp2
    go_ret
    exact ⟨rfl, rfl⟩
  · by_cases h2 : (l.length : Int) ≤ z
    · have e : badC l.length z = true := by simp [badC, h2]
      rw [e]
      clear e
      go_enter Try.func73, Try.ntmps73
      go_wp2
      go_ret
      exact ⟨rfl, rfl⟩
    · have e : badC l.length z = false := by simp only [badC, h1, h2]; rfl
      rw [e]
      clear e
      go_enter Try.func73, Try.ntmps73
      go_wp2
      go_ret
      exact ⟨rfl, rfl⟩

set_option maxRecDepth 100000 in
set_option maxHeartbeats 400000 in
theorem IndexC_any (A : Option Addr) (c : Nat) (l : List V3) (B : Nat) (C : Option Addr) (cc : Nat) (cs : List Int) (hl : cs.length ≤ maxLen) (w : World) (h : w.cell? ⟨B, 0, none⟩ = some (.slice A l.length c)) (hr : Cols w C cs) :
    Calls Try.prog 88 #[.slice C cs.length cc, .func (.func 73) #[] #[.pointer (some ⟨B, 0, none⟩)]] w fun e w' => e = .returned (.int .i64 (idxFrom (badC l.length) 0 cs)) ∧ w = w' := by
  unfold maxLen at hl
  have HR := Lib.hid hr
  have HC := Lib.hid h
  clear hr h
  go_enter Try.func88, Try.ntmps88
  go_wp2
  go_loop [8] (fun i => ∃ k : Nat, k ≤ cs.length ∧ i = .int .i64 k ∧ Hid (idxFrom (badC l.length) 0 cs = idxFrom (badC l.length) k (cs.drop k))) (fun i => cs.length - (intOf i).toNat)
  case atStart => exact ⟨0, Nat.zero_le _, rfl, rfl⟩
  case round =>
    obtain ⟨k, hk, rfl, HI⟩ := hrel
    by_cases hlt : k < cs.length
    · obtain ⟨b, o, rfl, hbw, hc⟩ := HR.out.at_ hlt
      have HS := Lib.hid (HI.out.trans (idx_step (badC l.length) hlt))
      clear HI
      generalize cs[k] = z at hc HS
      go_wp2_with fail
      refine (missing_any A c l B z _ HC.out).mono ?_
      rintro e w1 ⟨rfl, rfl⟩
      by_cases hb : badC l.length z = true
      · rw [hb]
        have HQ := Lib.hid (HS.out.trans (if_pos hb))
        clear hb HS
        go_wp2
        go_ret
        exact ⟨ret_int HQ.out.symm, rfl⟩
      · have HQ := Lib.hid (HS.out.trans (if_neg hb))
        have hb : badC l.length z = false := by simpa using hb
        rw [hb]
        clear hb HS
        go_wp2
        go_round
        case rel => exact ⟨k + 1, by omega, by go_num, HQ.out⟩
        case measure => simp [intOf]; omega
    · have HQ := Lib.hid (HI.out.trans (idx_end (badC l.length) hlt))
      go_wp2
      go_ret
      exact ⟨ret_int HQ.out.symm, rfl⟩

set_option maxRecDepth 100000 in
set_option maxHeartbeats 400000 in
theorem ContainsC_any (A : Option Addr) (c : Nat) (l : List V3) (B : Nat) (C : Option Addr) (cc : Nat) (cs : List Int) (hl : cs.length ≤ maxLen) (w : World) (h : w.cell? ⟨B, 0, none⟩ = some (.slice A l.length c)) (hr : Cols w C cs) :
    Calls Try.prog 74 #[.slice C cs.length cc, .func (.func 73) #[] #[.pointer (some ⟨B, 0, none⟩)]] w fun e w' => e = .returned (.bool (cs.any (badC l.length))) ∧ w = w' := by
  have HC := Lib.hid (IndexC_any A c l B C cc cs hl w h hr)
  clear h
  go_enter Try.func74, Try.ntmps74
  go_wp2_with fail
  refine HC.out.mono ?_
  rintro e w1 ⟨rfl, rfl⟩
  go_wp2
  go_ret
  exact ⟨ret_bool (idx_any (badC l.length) cs 0), rfl⟩
end Go.Proofs.Ytbahmkhnnahddaa
