/- Where, and its test. Conditions: tuples no longer than Go's longest. -/
import Derived.Test.YtbahmkhnnahddaaRelWk
import Derived.BigQuiet
namespace Go.Proofs.Ytbahmkhnnahddaa
open Go.RowKit Go.Deep Go.Shelf

theorem Where_any (b : Nat) (z : Int) (x : V3) (w : World) :
    Calls Try.prog 34 #[rp b, .int .i64 z, .agg #[.int .i64 x.1, .int .i64 x.2.1, .string x.2.2]] w fun e w' => e = .returned (.func (.func 75) #[] #[.pointer (some ⟨w.heap.size + 2, 0, none⟩), .pointer (some ⟨w.heap.size + 3, 0, none⟩)]) ∧
      w' = (((w.alloc (.cells #[.int .i64 z] 3)).alloc (.cells #[.int .i64 x.1, .int .i64 x.2.1, .string x.2.2] 48)).alloc (.cells #[rp b] 24)).alloc (.cells #[.func (.func 59) #[] #[.pointer (some ⟨w.heap.size, 0, none⟩), .pointer (some ⟨w.heap.size + 1, 0, none⟩)]] 39) := by
  have HT := Lib.hid (those_any (rp b) 59 #[] #[.pointer (some ⟨w.heap.size, 0, none⟩), .pointer (some ⟨w.heap.size + 1, 0, none⟩)] _ rfl ((w.alloc (.cells #[.int .i64 z] 3)).alloc (.cells #[.int .i64 x.1, .int .i64 x.2.1, .string x.2.2] 48)))
  obtain ⟨xk, xn, xs⟩ := x
  simp only at HT ⊢
  go_enter Try.func34, Try.ntmps34
  go_wp2_with fail
  with_reducible refine HT.out.mono ?_
  rintro e w1 ⟨rfl, rfl⟩
  go_wp2
  go_ret
  exact ⟨by simp, rfl⟩

set_option maxRecDepth 100000 in
/-- '==' on values that differ. -/
theorem eql3 {x y : V3} (h : x ≠ y) (w : World) : (binOp .eql 48 (vt x) (vt y)).run Try.prog w = .ok (.bool false) w := by
  have u3 := Try.underlying3
  have a3 := Try.isAgg3
  have z3 := Try.sizeOf3
  have uk := Try.underlying46
  have ak := Try.isAgg46
  have zk := Try.sizeOf46
  have us := Try.underlying9
  have aas := Try.isAgg9
  have zs := Try.sizeOf9
  have hS : Try.prog.underlying 48 = some (.struct (Try.prog.fieldsOf 48)) := by kernel_rfl
  have hp : Try.prog.stoodInHeld 48 = false := by kernel_rfl
  obtain ⟨xk, xn, xs⟩ := x
  obtain ⟨yk, yn, ys⟩ := y
  rw [run_eql_struct, show (10000 : Nat) = 9999 + 1 from rfl, run_equalIn_agg w 9999 48 _ _ hS hp]
  simp only [Program.fieldsOf, Try.underlying48]
  go_simp
  by_cases h1 : xk = yk
  · by_cases h2 : xn = yn
    · have h3 : ¬ xs = ys := fun e => h (by rw [h1, h2, e])
      simp [h1, h2]
      exact fun e => h3 (toList_inj e)
    · simp [h1, h2]
  · simp [h1]

/-- has it this value in the column? -/
def colT (z : Int) (v : V3) (l : List V3) : Bool := decide (0 ≤ z) && decide (z < (l.length : Int)) && decide (l[z.toNat]? = some v)
set_option maxRecDepth 100000 in
set_option maxHeartbeats 1000000 in
theorem Where1_any (bc bv : Nat) (z : Int) (v : V3) (t : TV) (w : World) (hc : w.cell? ⟨bc, 0, none⟩ = some (.int .i64 z)) (hv : Cell3 w bv 0 v) (hl : t.2.2.length ≤ maxLen) (hr : Row w t.1 t.2.2) :
    Calls Try.prog 59 ((#[] : Array Value).push (tval t) ++ #[.pointer (some ⟨bc, 0, none⟩), .pointer (some ⟨bv, 0, none⟩)]) w fun e w' => e = .returned (.bool (colT z v t.2.2)) ∧ Below w.heap.size w w' := by
  change Calls Try.prog _ #[tval t, .pointer (some ⟨bc, 0, none⟩), .pointer (some ⟨bv, 0, none⟩)] _ _
  obtain ⟨X, xc, xl⟩ := t
  simp only at hl hr ⊢
  have qc := World.block_lt_of_cell? w ⟨bc, 0, none⟩ hc
  have qv := World.block_lt_of_cell? w ⟨bv, 0, none⟩ hv.1
  simp only at qc qv
  by_cases h0 : 0 ≤ z
  · by_cases h1 : z < (xl.length : Int)
    · obtain ⟨k, rfl⟩ : ∃ k : Nat, z = (k : Int) := ⟨z.toNat, by omega⟩
      have hk : k < xl.length := by omega
      obtain ⟨g, o, rfl, hgw, hcs⟩ := hr (by omega)
      obtain ⟨d0, d1, d2⟩ := hcs k _ (List.getElem?_eq_getElem hk)
      obtain ⟨e0, e1, e2⟩ := hv
      have HQ : Hid (colT (k : Int) v xl = decide (xl[k] = v)) := by
        show _ = _
        simp [colT, hk]
      generalize xl[k] = y at d0 d1 d2 HQ
      obtain ⟨yk, yn, ys⟩ := y
      obtain ⟨vk, vn, vs⟩ := v
      simp only [Nat.zero_add] at d0 d1 d2 e0 e1 e2
      unfold maxLen at hl
      clear hr hcs
      by_cases heq : (yk, yn, ys) = (vk, vn, vs)
      · have HE : Hid (colT (k : Int) (vk, vn, vs) xl = true) := by show _ = _; rw [HQ.out]; exact decide_eq_true heq
        injection heq with a1 a2
        injection a2 with a2 a3
        subst a1 a2 a3
        change Calls Try.prog _ #[.slice (some ⟨g, o, none⟩) xl.length xc, .pointer (some ⟨bc, 0, none⟩), .pointer (some ⟨bv, 0, none⟩)] _ _
        go_enter Try.func59, Try.ntmps59
        go_wp2_with fail
        go_quiet (fail)
        go_wp2
        go_ret
        exact ⟨ret_bool HE.out.symm, below_drewN (Below.refl _ _) nq⟩
      · have HE : Hid (colT (k : Int) (vk, vn, vs) xl = false) := by show _ = _; rw [HQ.out]; exact decide_eq_false heq
        have kn := fun w => eql3 heq w
        clear heq HQ
        change Calls Try.prog _ #[.slice (some ⟨g, o, none⟩) xl.length xc, .pointer (some ⟨bc, 0, none⟩), .pointer (some ⟨bv, 0, none⟩)] _ _
        go_enter Try.func59, Try.ntmps59
        go_wp2_with fail
        go_quiet (fail)
        go_wp2
        go_ret
        exact ⟨ret_bool HE.out.symm, below_drewN (Below.refl _ _) nq⟩
    · have HE : Hid (colT z v xl = false) := by show _ = _; simp [colT, h1]
      have hd0 : decide (0 ≤ z) = true := decide_eq_true h0
      have hd1 : decide (z < (xl.length : Int)) = false := decide_eq_false h1
      clear h0 h1
      go_enter Try.func59, Try.ntmps59
      go_wp2_with fail
      go_quiet (fail)
      go_wp2
      go_ret
      exact ⟨ret_bool HE.out.symm, below_drewN (Below.refl _ _) nq⟩
  · have HE : Hid (colT z v xl = false) := by show _ = _; simp [colT, h0]
    have hd0 : decide (0 ≤ z) = false := decide_eq_false h0
    clear h0
    go_enter Try.func59, Try.ntmps59
    go_wp2_with fail
    go_quiet (fail)
    go_wp2
    go_ret
    exact ⟨ret_bool HE.out.symm, below_drewN (Below.refl _ _) nq⟩
end Go.Proofs.Ytbahmkhnnahddaa
