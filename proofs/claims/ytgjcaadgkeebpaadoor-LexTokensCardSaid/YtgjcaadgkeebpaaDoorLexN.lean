/- The document's side: bytes, words, lists of texts. Conditions: texts of at most Go's longest. -/
import Derived.Test.YtgjcaadgkeebpaaDoorLexK
import Derived.Test.YtgjcaadgkeebpaaDoorValParsesA
namespace Go.Proofs.YtgjcaadgkeebpaaDoor
open Go.RowKit Go.Deep Go.Shelf

/-- the ways of a byte, as the document asks for them. -/
theorem ins_cases (c : UInt8) : (97 ≤ (c.toNat : Int) ∧ (c.toNat : Int) ≤ 122 ∧ wb c = true) ∨
    ((¬ 97 ≤ (c.toNat : Int) ∨ ¬ (c.toNat : Int) ≤ 122) ∧ ((65 ≤ (c.toNat : Int) ∧ (c.toNat : Int) ≤ 90 ∧ wb c = true) ∨ (¬ 65 ≤ (c.toNat : Int) ∨ ¬ (c.toNat : Int) ≤ 90) ∧ (48 ≤ (c.toNat : Int) ∧ (c.toNat : Int) ≤ 57 ∧ wb c = true ∨ (¬ 48 ≤ (c.toNat : Int) ∨ ¬ (c.toNat : Int) ≤ 57) ∧ wb c = ((c.toNat : Int) == 95)))) := by
  rcases wb_cases c with h | ⟨h1, ⟨h2, h⟩ | ⟨h2, h3⟩⟩
  · exact .inl h
  · simp only [upB, Bool.and_eq_true, decide_eq_true_eq] at h2
    exact .inr ⟨h1, .inl ⟨h2.1, h2.2, h⟩⟩
  · refine .inr ⟨h1, .inr ⟨?_, h3⟩⟩
    by_cases h65 : 65 ≤ (c.toNat : Int)
    · refine .inr fun h90 => ?_
      simp [upB, h65, h90] at h2
    · exact .inl h65

set_option maxRecDepth 100000 in
set_option maxHeartbeats 1000000 in
theorem inside_any (c : UInt8) (w : World) :
    Calls Tryd.prog 16 #[.int .u8 c.toNat] w fun e w' => e = .returned (.bool (wb c)) ∧ w = w' := by
  rcases ins_cases c with ⟨h1, h2, h⟩ | ⟨h1, ⟨h2, h3, h⟩ | ⟨h2, ⟨h3, h4, h⟩ | ⟨h3, h⟩⟩⟩
  · rw [h]; clear h
    go_enter Tryd.func16, Tryd.ntmps16
    go_wp2
    go_ret
    exact ⟨rfl, rfl⟩
  · rw [h]; clear h
    rcases h1 with h1 | h1
    all_goals
      go_enter Tryd.func16, Tryd.ntmps16
      go_wp2
    all_goals
      go_ret
      exact ⟨rfl, rfl⟩
  · rw [h]; clear h
    rcases h1 with h1 | h1 <;> rcases h2 with h2 | h2
    all_goals
      go_enter Tryd.func16, Tryd.ntmps16
      go_wp2
    all_goals
      go_ret
      exact ⟨ret_bool (by simp; try omega), rfl⟩
  · have H := Lib.hid h
    clear h
    rcases h1 with h1 | h1 <;> rcases h2 with h2 | h2 <;> rcases h3 with h3 | h3
    all_goals
      go_enter Tryd.func16, Tryd.ntmps16
      go_wp2
    all_goals
      go_ret
      exact ⟨ret_bool (by have e := H.out; rw [e]; try (simp; try omega)), rfl⟩
theorem inside_is (c : UInt8) (b : Bool) (h : wb c = b) (w : World) : Calls Tryd.prog 16 #[.int .u8 c.toNat] w fun e w' => e = .returned (.bool b) ∧ w = w' := by
  rw [← h]; exact inside_any c w

/-- texts that lie in a row. -/
def SRow (w : World) (b o : Nat) (L : List (List UInt8)) : Prop := ∀ (i : Nat) x, L[i]? = some x → w.cell? ⟨b, o + i, none⟩ = some (.string (bts x))
/-- is it one of them? -/
def inB (L : List (List UInt8)) (l : List UInt8) : Bool := L.contains l
theorem in_yes {L : List (List UInt8)} {l : List UInt8} {k : Nat} (hk : k < L.length) (h : l = L[k]) : inB L l = true := by
  unfold inB
  rw [List.contains_iff_mem, h]
  exact List.getElem_mem hk
theorem in_no {L : List (List UInt8)} {l : List UInt8} (h : ∀ j (hj : j < L.length), l ≠ L[j]) : inB L l = false := by
  cases hc : inB L l with
  | false => rfl
  | true =>
    unfold inB at hc
    rw [List.contains_iff_mem] at hc
    obtain ⟨j, hj, e⟩ := List.mem_iff_getElem.1 hc
    exact absurd e.symm (h j hj)

set_option maxRecDepth 100000 in
set_option maxHeartbeats 1000000 in
theorem in_any (b o c : Nat) (L : List (List UInt8)) (s : ByteArray) (w : World) (hl : L.length ≤ 100) (hr : SRow w b o L) :
    Calls Tryd.prog 18 #[.slice (some ⟨b, o, none⟩) L.length c, .string s] w fun e w' => e = .returned (.bool (inB L s.data.toList)) ∧ w = w' := by
  have HR := Lib.hid hr
  clear hr
  go_enter Tryd.func18, Tryd.ntmps18
  go_wp2
  go_loop [5] (fun i => ∃ k : Nat, k ≤ L.length ∧ i = .int .i64 k ∧ Hid (∀ j (hj : j < L.length), j < k → s.data.toList ≠ L[j])) (fun i => L.length - (intOf i).toNat)
  case atStart => exact ⟨0, Nat.zero_le _, rfl, fun _ _ h => absurd h (by omega)⟩
  case round =>
    obtain ⟨k, hk, rfl, HK⟩ := hrel
    by_cases hlt : k < L.length
    · have hx := HR.out k _ (List.getElem?_eq_getElem hlt)
      by_cases he : s.data.toList = L[k]
      · have HQ := Lib.hid (in_yes hlt he)
        have h1 : (L[k] == s.toList) = true := by rw [Lib.toList_data, he]; simp
        clear he HK
        generalize L[k] = t at hx h1
        go_wp2
        go_ret
        exact ⟨ret_bool HQ.out.symm, rfl⟩
      · have HQ : Hid (∀ j (hj : j < L.length), j < k + 1 → s.data.toList ≠ L[j]) := fun j hj h => by
          by_cases h2 : j = k
          · subst h2; exact he
          · exact HK.out j hj (by omega)
        have h1 : (L[k] == s.toList) = false := by rw [Lib.toList_data]; simpa using fun h => he h.symm
        clear he HK
        generalize L[k] = t at hx h1
        go_wp2
        go_round
        case rel => exact ⟨k + 1, by omega, by go_num, HQ⟩
        case measure => simp [intOf]; omega
    · have HQ := Lib.hid (in_no fun j hj => HK.out j hj (by omega))
      go_wp2
      go_ret
      exact ⟨ret_bool HQ.out.symm, rfl⟩
end Go.Proofs.YtgjcaadgkeebpaaDoor
