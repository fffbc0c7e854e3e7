/- What is right: terms, atoms, columns' kinds. Conditions: texts of at most 2^47 bytes; lex's two tables and strconv's variables as they are laid. -/
import Derived.Test.YtlfakhjcpdkaiaaGreatDoorTermF
set_option linter.unusedVariables false
set_option linter.unusedSimpArgs false
namespace Go.Proofs.YtlfakhjcpdkaiaaGreatDoor
open Go.RowKit Go.Deep Go.Shelf

theorem txt0 {s : ByteArray} (h : s.size = 0) : s.toList = [] ∧ s.toList.isEmpty = true := by
  have e := empty_of h
  subst e
  exact ⟨by rw [Lib.toList_data], by rw [Lib.toList_data]; rfl⟩
set_option maxRecDepth 100000 in
set_option maxHeartbeats 400000 in
theorem tmRight_is (t : TTm) (b : Bool) (w : World) (h : rightTm t = b) (ho : okTm t) (hL : Lays w) : Calls Tryz.prog 55 #[tmV t] w fun r w' => r = .returned (.bool b) ∧ Below w.heap.size w w' := by
  unfold tmV
  unfold rightTm at h
  have HL := Lib.hid (hL.below ((Below.refl w.heap.size w).alloc (o := .cells #[.string t.v, .int .i64 t.k, .int .i64 t.n, .string t.s] 41) (Nat.le_refl _)))
  have ho1 := ho.1
  have ho2 : t.s.size ≤ maxLen := by have := ho.2; unfold maxLen; omega
  by_cases h0 : t.v.size = 0
  · rw [if_pos h0] at h
    have hz := (txt0 h0).2
    have hz1 := (txt0 h0).1
    have C : Hid (∀ W, Calls Tryz.prog 70 #[.agg #[.int .i64 t.k, .int .i64 t.n, .string t.s]] W fun e w' => e = .returned (.bool b) ∧ Below W.heap.size W w') := fun W => by rw [← h]; exact Right_any t.k t.n t.s W ho2
    clear h h0 hL
    go_enter Tryz.func55, Tryz.ntmps55
    go_wp2_with fail
    refine (C.out _).mono ?_
    rintro e w' ⟨rfl, hb⟩
    have HB : Hid (Below w.heap.size w w') := ((Below.refl _ _).alloc (Nat.le_refl _) _).trans (hb.mono (by simp))
    clear hb
    go_wp2_with fail
    go_ret
    exact ⟨rfl, HB.out⟩
  · rw [if_neg h0] at h
    obtain ⟨hz1, hz⟩ := empty_not h0
    have hz2 : ¬ t.v.toList = [] := fun e => by rw [e] at hz; cases hz
    cases h1 : soleB 3 t.v with
    | false =>
      rw [h1] at h
      subst h
      have C := Lib.hid (Variable_is t.v false _ h1 ho1 HL.out)
      clear h1 h0 hL
      go_enter Tryz.func55, Tryz.ntmps55
      go_wp2_with fail
      refine C.out.mono ?_
      rintro e w' ⟨rfl, hb⟩
      have HB : Hid (Below w.heap.size w w') := ((Below.refl _ _).alloc (Nat.le_refl _) _).trans (hb.mono (by simp))
      clear hb
      go_wp2_with fail
      go_ret
      exact ⟨rfl, HB.out⟩
    | true =>
      rw [h1, Bool.true_and] at h
      have C := Lib.hid (Variable_is t.v true _ h1 ho1 HL.out)
      have kq := eqVal t b h
      clear h h1 h0 hL
      go_enter Tryz.func55, Tryz.ntmps55
      go_wp2_with fail
      refine C.out.mono ?_
      rintro e w' ⟨rfl, hb⟩
      have c1 := (hb.cell (p := ⟨w.heap.size, 1, none⟩) (by simp)).trans ((World.cell?_alloc_new _ _ _ _).trans rfl)
      have c2 := (hb.cell (p := ⟨w.heap.size, 2, none⟩) (by simp)).trans ((World.cell?_alloc_new _ _ _ _).trans rfl)
      have c3 := (hb.cell (p := ⟨w.heap.size, 3, none⟩) (by simp)).trans ((World.cell?_alloc_new _ _ _ _).trans rfl)
      have HB : Hid (Below w.heap.size w w') := ((Below.refl _ _).alloc (Nat.le_refl _) _).trans (hb.mono (by simp))
      clear hb
      go_wp2_with fail
      go_ret
      exact ⟨rfl, HB.out⟩
end Go.Proofs.YtlfakhjcpdkaiaaGreatDoor
