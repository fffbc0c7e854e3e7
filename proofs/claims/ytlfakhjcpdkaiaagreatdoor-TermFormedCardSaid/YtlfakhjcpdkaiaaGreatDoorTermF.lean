/- What is right: numbers, leaves, zero parts, terms. Conditions: texts of at most 2^47 bytes; lex's two tables and strconv's variables as they are laid. -/
import Derived.Test.YtlfakhjcpdkaiaaGreatDoorTermE
import Derived.Test.YtlfakhjcpdkaiaaGreatDoorValParts
set_option linter.unusedVariables false
set_option linter.unusedSimpArgs false
namespace Go.Proofs.YtlfakhjcpdkaiaaGreatDoor
open Go.RowKit Go.Deep Go.Shelf

theorem beq0 {n : Nat} (h : n = 0) : ((n : Int) == 0) = true := by simp [h]
theorem beq0_not {n : Nat} (h : ¬ n = 0) : ((n : Int) == 0) = false := by simp only [beq_eq_false_iff_ne]; omega
theorem toList_inj' {a b : ByteArray} (h : a.toList = b.toList) : a = b := by
  rw [Lib.toList_data, Lib.toList_data] at h
  obtain ⟨⟨x⟩⟩ := a
  obtain ⟨⟨y⟩⟩ := b
  simpa using h
set_option maxRecDepth 100000 in
/-- '==' on terms. -/
theorem eqTm (x y : TTm) (b : Bool) (h : decide (x = y) = b) (w : World) : (binOp .eql 41 (.agg #[.string x.v, .int .i64 x.k, .int .i64 x.n, .string x.s]) (.agg #[.string y.v, .int .i64 y.k, .int .i64 y.n, .string y.s])).run Tryz.prog w = .ok (.bool b) w := by
  have u3 := Tryz.underlying3
  have a3 := Tryz.isAgg3
  have z3 := Tryz.sizeOf3
  have uk := Tryz.underlying37
  have ak := Tryz.isAgg37
  have zk := Tryz.sizeOf37
  have us := Tryz.underlying9
  have aas := Tryz.isAgg9
  have zs := Tryz.sizeOf9
  have uv := Tryz.underlying39
  have av := Tryz.isAgg39
  have zv := Tryz.sizeOf39
  have hS : Tryz.prog.underlying 41 = some (.struct (Tryz.prog.fieldsOf 41)) := by kernel_rfl
  have hp : Tryz.prog.stoodInHeld 41 = false := by kernel_rfl
  have hS2 : Tryz.prog.underlying 39 = some (.struct (Tryz.prog.fieldsOf 39)) := by kernel_rfl
  have hp2 : Tryz.prog.stoodInHeld 39 = false := by kernel_rfl
  obtain ⟨xv, xk, xn, xs⟩ := x
  obtain ⟨yv, yk, yn, ys⟩ := y
  rw [← h]
  rw [run_eql_struct, show (10000 : Nat) = 9999 + 1 from rfl, run_equalIn_agg w 9999 41 _ _ hS hp]
  simp only [Program.fieldsOf, Tryz.underlying41]
  go_simp
  have e1 : (xv.toList = yv.toList) ↔ xv = yv := ⟨toList_inj', fun h => by rw [h]⟩
  have e2 : (xs.toList = ys.toList) ↔ xs = ys := ⟨toList_inj', fun h => by rw [h]⟩
  simp only [e1, e2]
  clear h u3 a3 z3 uk ak zk us aas zs uv av zv hS hp hS2 hp2 e1 e2
  by_cases h1 : xv = yv
  · by_cases h2 : xk = yk
    · by_cases h3 : xn = yn
      · by_cases h4 : xs = ys
        · simp [h1, h2, h3, h4]
        · simp [h1, h2, h3, h4]
      · simp [h1, h2, h3]
    · simp [h1, h2]
  · simp [h1]
set_option maxRecDepth 100000 in
/-- '!=' on terms. -/
theorem neTm (x y : TTm) (b : Bool) (h : decide (x = y) = b) (w : World) : (binOp .neq 41 (.agg #[.string x.v, .int .i64 x.k, .int .i64 x.n, .string x.s]) (.agg #[.string y.v, .int .i64 y.k, .int .i64 y.n, .string y.s])).run Tryz.prog w = .ok (.bool !b) w := by
  have u3 := Tryz.underlying3
  have a3 := Tryz.isAgg3
  have z3 := Tryz.sizeOf3
  have uk := Tryz.underlying37
  have ak := Tryz.isAgg37
  have zk := Tryz.sizeOf37
  have us := Tryz.underlying9
  have aas := Tryz.isAgg9
  have zs := Tryz.sizeOf9
  have uv := Tryz.underlying39
  have av := Tryz.isAgg39
  have zv := Tryz.sizeOf39
  have hS : Tryz.prog.underlying 41 = some (.struct (Tryz.prog.fieldsOf 41)) := by kernel_rfl
  have hp : Tryz.prog.stoodInHeld 41 = false := by kernel_rfl
  have hS2 : Tryz.prog.underlying 39 = some (.struct (Tryz.prog.fieldsOf 39)) := by kernel_rfl
  have hp2 : Tryz.prog.stoodInHeld 39 = false := by kernel_rfl
  obtain ⟨xv, xk, xn, xs⟩ := x
  obtain ⟨yv, yk, yn, ys⟩ := y
  rw [← h]
  rw [run_neq_struct, show (10000 : Nat) = 9999 + 1 from rfl, run_equalIn_agg w 9999 41 _ _ hS hp]
  simp only [Program.fieldsOf, Tryz.underlying41]
  go_simp
  have e1 : (xv.toList = yv.toList) ↔ xv = yv := ⟨toList_inj', fun h => by rw [h]⟩
  have e2 : (xs.toList = ys.toList) ↔ xs = ys := ⟨toList_inj', fun h => by rw [h]⟩
  simp only [e1, e2]
  clear h u3 a3 z3 uk ak zk us aas zs uv av zv hS hp hS2 hp2 e1 e2
  by_cases h1 : xv = yv
  · by_cases h2 : xk = yk
    · by_cases h3 : xn = yn
      · by_cases h4 : xs = ys
        · simp [h1, h2, h3, h4]
        · simp [h1, h2, h3, h4]
      · simp [h1, h2, h3]
    · simp [h1, h2]
  · simp [h1]
set_option maxRecDepth 100000 in
/-- a value against the zero one. -/
theorem eqVal (t : TTm) (b : Bool) (h : zVal t = b) (w : World) : (binOp .eql 39 (.agg #[.int .i64 t.k, .int .i64 t.n, .string t.s]) (.agg #[.int .i64 0, .int .i64 0, .string noText])).run Tryz.prog w = .ok (.bool b) w := by
  have u3 := Tryz.underlying3
  have a3 := Tryz.isAgg3
  have z3 := Tryz.sizeOf3
  have uk := Tryz.underlying37
  have ak := Tryz.isAgg37
  have zk := Tryz.sizeOf37
  have us := Tryz.underlying9
  have aas := Tryz.isAgg9
  have zs := Tryz.sizeOf9
  have hS2 : Tryz.prog.underlying 39 = some (.struct (Tryz.prog.fieldsOf 39)) := by kernel_rfl
  have hp2 : Tryz.prog.stoodInHeld 39 = false := by kernel_rfl
  obtain ⟨xv, xk, xn, xs⟩ := t
  rw [← h]
  unfold zVal
  rw [run_eql_struct, show (10000 : Nat) = 9999 + 1 from rfl, run_equalIn_agg w 9999 39 _ _ hS2 hp2]
  simp only [Program.fieldsOf, Tryz.underlying39]
  go_simp
  have e0 : noText.toList = [] := by rw [Lib.toList_data]
  have e2 : (xs.toList = []) ↔ xs = noText := ⟨fun h => toList_inj' (h.trans e0.symm), fun h => by rw [h]; exact e0⟩
  simp only [e2]
  clear h u3 a3 z3 uk ak zk us aas zs hS2 hp2 e2 e0
  generalize noText = ys
  by_cases h2 : xk = 0
  · by_cases h3 : xn = 0
    · by_cases h4 : xs = ys
      · simp [h2, h3, h4]
      · simp [h2, h3, h4]
    · simp [h2, h3]
  · simp [h2]
set_option maxRecDepth 100000 in
theorem numbered_is (n last : Int) (b : Bool) (h : decide (1 ≤ n ∧ n ≤ last) = b) (w : World) : Calls Tryz.prog 56 #[.int .i64 n, .int .i64 last] w fun e w' => e = .returned (.bool b) ∧ w = w' := by
  rw [← h]
  clear h
  by_cases h1 : 1 ≤ n
  · by_cases h2 : n ≤ last
    · go_enter Tryz.func56, Tryz.ntmps56
      go_wp2
      go_ret
      exact ⟨by simp [h1, h2], rfl⟩
    · go_enter Tryz.func56, Tryz.ntmps56
      go_wp2
      go_ret
      exact ⟨by simp [h1, h2], rfl⟩
  · go_enter Tryz.func56, Tryz.ntmps56
    go_wp2
    go_ret
    exact ⟨by simp; omega, rfl⟩
set_option maxRecDepth 100000 in
theorem leaf_is (e : TEx) (A : Option Addr) (c : Nat) (b : Bool) (h : decide (e.kids.length = 0) = b) (w : World) : Calls Tryz.prog 71 #[exV e A c] w fun r w' => r = .returned (.bool b) ∧ Below w.heap.size w w' := by
  rw [← h]
  clear h
  unfold exV
  by_cases h1 : e.kids.length = 0
  · have h2 := beq0 h1
    have H1 := Lib.hid h1
    clear h1
    go_enter Tryz.func71, Tryz.ntmps71
    go_wp2
    go_ret
    exact ⟨by simp [H1.out], (Below.refl _ _).alloc (Nat.le_refl _) _⟩
  · have h2 := beq0_not h1
    have H1 := Lib.hid h1
    clear h1
    go_enter Tryz.func71, Tryz.ntmps71
    go_wp2
    go_ret
    exact ⟨by simp [H1.out], (Below.refl _ _).alloc (Nat.le_refl _) _⟩
set_option maxRecDepth 100000 in
theorem relation_is (s : ByteArray) (b : Bool) (w : World) (h : soleB 2 s = b) (hs : s.size ≤ 140737488351232) (hL : Lays w) : Calls Tryz.prog 40 #[.string s] w fun e w' => e = .returned (.bool b) ∧ Below w.heap.size w w' := by
  have C : Hid (Calls Tryz.prog 35 #[.string s, .int .i64 2] w fun e w' => e = .returned (.bool b) ∧ Below w.heap.size w w') := by rw [← h]; exact sole_any s 2 w hs (by omega) hL
  clear h hL
  go_enter Tryz.func40, Tryz.ntmps40
  go_wp2_with fail
  refine C.out.mono ?_
  rintro e w' ⟨rfl, hb⟩
  go_wp2_with fail
  go_ret
  exact ⟨rfl, hb⟩
set_option maxRecDepth 100000 in
theorem Variable_is (s : ByteArray) (b : Bool) (w : World) (h : soleB 3 s = b) (hs : s.size ≤ 140737488351232) (hL : Lays w) : Calls Tryz.prog 15 #[.string s] w fun e w' => e = .returned (.bool b) ∧ Below w.heap.size w w' := by
  have C : Hid (Calls Tryz.prog 35 #[.string s, .int .i64 3] w fun e w' => e = .returned (.bool b) ∧ Below w.heap.size w w') := by rw [← h]; exact sole_any s 3 w hs (by omega) hL
  clear h hL
  go_enter Tryz.func15, Tryz.ntmps15
  go_wp2_with fail
  refine C.out.mono ?_
  rintro e w' ⟨rfl, hb⟩
  go_wp2_with fail
  go_ret
  exact ⟨rfl, hb⟩
set_option maxRecDepth 100000 in
theorem columnKind_is (k : Int) (b : Bool) (h : kindB k = b) (w : World) : Calls Tryz.prog 42 #[.int .i64 k] w fun e w' => e = .returned (.bool b) ∧ w = w' := by
  rw [← h]
  clear h
  by_cases h1 : k = 1
  · subst h1
    go_enter Tryz.func42, Tryz.ntmps42
    go_wp2
    go_ret
    exact ⟨rfl, rfl⟩
  · have e1 : (k == 1) = false := by simp [h1]
    by_cases h2 : k = 2
    · subst h2
      clear h1
      go_enter Tryz.func42, Tryz.ntmps42
      go_wp2
      go_ret
      exact ⟨rfl, rfl⟩
    · have e2 : (k == 2) = false := by simp [h2]
      have H : Hid (kindB k = false) := by show _ = _; simp [kindB, h1, h2]
      clear h1 h2
      go_enter Tryz.func42, Tryz.ntmps42
      go_wp2
      go_ret
      exact ⟨ret_bool H.out.symm, rfl⟩
end Go.Proofs.YtlfakhjcpdkaiaaGreatDoor
