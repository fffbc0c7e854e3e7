/- List: all tokens of a text, or where there is none. Conditions: lex's two tables and strconv's variables as they are laid. -/
import Derived.Test.YtlfakhjcpdkaiaaGreatDoorLexI
import Derived.RegionIn
namespace Go.Proofs.YtlfakhjcpdkaiaaGreatDoor
open Go.RowKit Go.Deep Go.Shelf
attribute [local go_sem] Oper.semAt_some

theorem infoTk : (Tryz.prog.info? 126).map (fun i => (i.zero, i.size, i.bytes)) = some (some (.agg #[.int .i64 0, .string noText, .int .i64 0]), 3, 32) := by kernel_rfl
theorem lexA_kinds (o : Nat) (l : List UInt8) : ∀ x ∈ (lexA kindW o l).1, x.1 ≠ 0 := by
  refine lexA_ind (kw := kindW) (P := fun _ _ R => ∀ x ∈ R.1, x.1 ≠ 0) (fun _ _ _ x h => by cases h) (fun _ _ _ _ x h => by cases h) (fun o l q t R _ ht _ _ _ hR x hx => ?_) _ o l rfl
  rcases List.mem_cons.1 hx with rfl | hx
  · exact tok_kind ht
  · exact hR x hx
theorem yOf_all {R : List Tk × Option Nat} (h : ∀ x ∈ yOf R, x.1 ≠ 0) : R.2 = none ∧ yOf R = R.1 := by
  obtain ⟨L, e⟩ := R
  cases e with
  | none => exact ⟨rfl, by simp [yOf]⟩
  | some p => exact absurd rfl (h (0, [], p) (by simp [yOf]))
theorem yOf_err {R : List Tk × Option Nat} (hk : ∀ x ∈ R.1, x.1 ≠ 0) {x : Tk} (h : x ∈ yOf R) (h0 : x.1 = 0) : R.2 = some x.2.2 ∧ x.2.1 = [] := by
  obtain ⟨L, e⟩ := R
  rcases List.mem_append.1 h with h | h
  · exact absurd h0 (hk x h)
  · cases e with
    | none => cases h
    | some p =>
      simp only [List.mem_singleton] at h
      subst h
      exact ⟨rfl, rfl⟩
theorem yOf_len (o : Nat) (l : List UInt8) : (yOf (lexA kindW o l)).length ≤ l.length + 1 := by
  have h := (lexA_len (kw := kindW) o l).2
  unfold yOf
  rw [List.length_append]
  split <;> simp <;> omega
theorem owns_val3 {w : World} {base n : Nat} {e : TypeId} {v : Value} {xs : List Value} (h : w.ownsRow base e 3 v (n + 1) xs) : ∃ g cap, v = .slice (some ⟨g, 0, none⟩) (n + 1) cap := by
  obtain ⟨_, ⟨_, h2⟩ | ⟨g, cap, cur, h2, _⟩⟩ := h
  · omega
  · exact ⟨g, cap, h2⟩
end Go.Proofs.YtlfakhjcpdkaiaaGreatDoor
