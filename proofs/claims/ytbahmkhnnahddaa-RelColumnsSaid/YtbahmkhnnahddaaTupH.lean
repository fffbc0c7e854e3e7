/- Which tuple stands ahead of which: tuple.Compare, corollaryref02.Less. Conditions: none. -/
import Derived.Test.YtbahmkhnnahddaaTupL
import Derived.StillTailTactics
namespace Go.Proofs.Ytbahmkhnnahddaa
open Go.RowKit Go.Deep

abbrev cmp3 (x y : V3) : Int := cmpV x.1 x.2.1 x.2.2 y.1 y.2.1 y.2.2
abbrev less3 (x y : V3) : Bool := lessV x.1 x.2.1 x.2.2 y.1 y.2.1 y.2.2
def cmpT : List V3 → List V3 → Int
  | [], [] => 0
  | [], _ :: _ => -1
  | _ :: _, [] => 1
  | x :: a, y :: b => if cmp3 x y ≠ 0 then cmp3 x y else cmpT a b
def lessT : List V3 → List V3 → Bool
  | [], [] => false
  | [], _ :: _ => true
  | _ :: _, [] => false
  | x :: a, y :: b => if x = y then lessT a b else less3 x y
theorem cmp_step {a b : List V3} {k : Nat} (ha : k < a.length) (hb : k < b.length) : cmpT (a.drop k) (b.drop k) = if cmp3 a[k] b[k] ≠ 0 then cmp3 a[k] b[k] else cmpT (a.drop (k + 1)) (b.drop (k + 1)) := by
  rw [List.drop_eq_getElem_cons ha, List.drop_eq_getElem_cons hb]
  rfl
theorem cmp_more {a b : List V3} {k : Nat} (ha : k < a.length) (hb : ¬ k < b.length) : cmpT (a.drop k) (b.drop k) = 1 := by
  rw [List.drop_eq_getElem_cons ha, List.drop_eq_nil_of_le (Nat.le_of_not_lt hb)]
  rfl
theorem cmp_fewer {a b : List V3} {k : Nat} (ha : ¬ k < a.length) (hb : k < b.length) : cmpT (a.drop k) (b.drop k) = -1 := by
  rw [List.drop_eq_nil_of_le (by omega), List.drop_eq_getElem_cons hb]
  rfl
theorem cmp_both {a b : List V3} {k : Nat} (ha : ¬ k < a.length) (hb : ¬ k < b.length) : cmpT (a.drop k) (b.drop k) = 0 := by
  rw [List.drop_eq_nil_of_le (by omega), List.drop_eq_nil_of_le (by omega)]
  rfl
theorem less_step {a b : List V3} {k : Nat} (ha : k < a.length) (hb : k < b.length) : lessT (a.drop k) (b.drop k) = if a[k] = b[k] then lessT (a.drop (k + 1)) (b.drop (k + 1)) else less3 a[k] b[k] := by
  rw [List.drop_eq_getElem_cons ha, List.drop_eq_getElem_cons hb]
  rfl
theorem less_fewer {a b : List V3} {k : Nat} (ha : ¬ k < a.length) (hb : k < b.length) : lessT (a.drop k) (b.drop k) = true := by
  rw [List.drop_eq_nil_of_le (by omega), List.drop_eq_getElem_cons hb]
  rfl
theorem less_more {a b : List V3} {k : Nat} (hb : ¬ k < b.length) : lessT (a.drop k) (b.drop k) = false := by
  have h0 : b.drop k = [] := List.drop_eq_nil_of_le (Nat.le_of_not_lt hb)
  rw [h0]
  cases a.drop k <;> rfl

set_option maxRecDepth 100000 in
set_option maxHeartbeats 400000 in
theorem CompareFunc_any (A A' : Option Addr) (c c' : Nat) (a b : List V3) (ha : a.length ≤ maxLen) (_hb : b.length ≤ maxLen) (w : World) (hr : Row w A a) (hr' : Row w A' b) :
    Calls Try.prog 71 #[.slice A a.length c, .slice A' b.length c', .func (.func 72) #[] #[]] w fun e w' => e = .returned (.int .i64 (cmpT a b)) ∧ Below w.heap.size w w' := by
  unfold maxLen at ha
  have HR := Lib.hid hr
  have HR' := Lib.hid hr'
  clear hr hr'
  go_enter Try.func71, Try.ntmps71
  go_wp2
  go_loopw [13] (fun i wr => ∃ k : Nat, k ≤ a.length ∧ k ≤ b.length ∧ i = .int .i64 k ∧ Hid (cmpT a b = cmpT (a.drop k) (b.drop k)) ∧ Hid (Below w.heap.size w wr)) (fun i _ => a.length - (intOf i).toNat)
  case atStart => exact ⟨0, Nat.zero_le _, Nat.zero_le _, rfl, rfl, Below.refl _ _⟩
  case round =>
    obtain ⟨k, hk, hk', rfl, HI, HB⟩ := hrel
    by_cases hlt : k < a.length
    · obtain ⟨g, o, rfl, hgw, hc⟩ := HR.out.at_ hlt
      have HN := Lib.hid (fun h => HI.out.trans (cmp_more hlt h))
      have HS := Lib.hid (fun h => HI.out.trans (cmp_step hlt h))
      clear HI
      generalize a[k] = x at hc HS
      obtain ⟨xk, xn, xs⟩ := x
      obtain ⟨c0, c1, c2⟩ := hc
      have c0 := (HB.out.cell hgw).trans c0
      have c1 := (HB.out.cell hgw).trans c1
      have c2 := (HB.out.cell hgw).trans c2
      simp only at c0 c1 c2
      have q3 : g < wr.heap.size := Nat.lt_of_lt_of_le hgw HB.out.size
      by_cases hlt' : k < b.length
      · obtain ⟨g', o', rfl, hgw', hc'⟩ := HR'.out.at_ hlt'
        have HT := Lib.hid (HS.out hlt')
        clear HS HN
        generalize b[k] = y at hc' HT
        obtain ⟨yk, yn, ys⟩ := y
        obtain ⟨d0, d1, d2⟩ := hc'
        have d0 := (HB.out.cell hgw').trans d0
        have d1 := (HB.out.cell hgw').trans d1
        have d2 := (HB.out.cell hgw').trans d2
        simp only at d0 d1 d2
        have q3' : g' < wr.heap.size := Nat.lt_of_lt_of_le hgw' HB.out.size
        have BB := Lib.hid ((HB.out.alloc (o := .cells #[.int .i64 xk, .int .i64 xn, .string xs] 48) HB.out.size).alloc (o := .cells #[.int .i64 yk, .int .i64 yn, .string ys] 48) (by have := HB.out.size; simp; omega))
        go_wp2_with fail
        refine (Compare_any xk xn xs yk yn ys _).mono ?_
        rintro e w1 ⟨rfl, b1⟩
        have B1 := Lib.hid (BB.out.trans (b1.mono BB.out.size))
        clear c0 c1 c2 d0 d1 d2 b1 hgw hgw' q3 q3' BB
        change Hid (cmpT a b = if cmpV xk xn xs yk yn ys ≠ 0 then cmpV xk xn xs yk yn ys else _) at HT
        generalize cmpV xk xn xs yk yn ys = r at HT
        by_cases h0 : (r != 0) = true
        · have HQ := Lib.hid (HT.out.trans (if_pos (by simpa using h0)))
          clear HT
          go_wp2
          go_ret
          exact ⟨ret_int HQ.out.symm, B1.out⟩
        · have h0 : (r != 0) = false := by simpa using h0
          have HQ := Lib.hid (HT.out.trans (if_neg (by simpa using h0)))
          clear HT
          go_wp2
          go_roundw
          case rel => exact ⟨k + 1, by omega, by omega, by go_num, HQ.out, B1.out⟩
          case measure => simp [intOf]; omega
      · have HQ := Lib.hid (HN.out hlt')
        clear HS HN
        go_wp2
        go_ret
        exact ⟨ret_int HQ.out.symm, HB.out.alloc HB.out.size _⟩
    · by_cases hlt' : k < b.length
      · have HQ := Lib.hid (HI.out.trans (cmp_fewer hlt hlt'))
        go_wp2
        go_ret
        exact ⟨ret_int HQ.out.symm, HB.out⟩
      · have HQ := Lib.hid (HI.out.trans (cmp_both hlt hlt'))
        go_wp2
        go_ret
        exact ⟨ret_int HQ.out.symm, HB.out⟩

set_option maxRecDepth 100000 in
set_option maxHeartbeats 400000 in
theorem CompareT_any (A A' : Option Addr) (c c' : Nat) (a b : List V3) (ha : a.length ≤ maxLen) (hb : b.length ≤ maxLen) (w : World) (hr : Row w A a) (hr' : Row w A' b) :
    Calls Try.prog 55 #[.slice A a.length c, .slice A' b.length c'] w fun e w' => e = .returned (.int .i64 (cmpT a b)) ∧ Below w.heap.size w w' := by
  have HC := Lib.hid (CompareFunc_any A A' c c' a b ha hb w hr hr')
  go_enter Try.func55, Try.ntmps55
  go_wp2_with fail
  refine HC.out.mono ?_
  rintro e w1 ⟨rfl, b1⟩
  go_wp2
  go_ret
  exact ⟨rfl, b1⟩

set_option maxRecDepth 100000 in
/-- '!=' on values. -/
theorem neq3 {x y : V3} (h : x ≠ y) (w : World) : (binOp .neq 48 (vt x) (vt y)).run Try.prog w = .ok (.bool true) w := by
  have u3 := Try.underlying3
  have a3 := Try.isAgg3
  have z3 := Try.sizeOf3
  have uk := Try.underlying46
  have ak := Try.isAgg46
  have zk := Try.sizeOf46
  have us := Try.underlying9
  have aas := Try.isAgg9
  have zs := Try.sizeOf9
  have hS : Try.prog.underlying 48 = some (.struct (Try.prog.fieldsOf 48)) := by kernel_rfl
  have hp : Try.prog.stoodInHeld 48 = false := by kernel_rfl
  obtain ⟨xk, xn, xs⟩ := x
  obtain ⟨yk, yn, ys⟩ := y
  rw [run_neq_struct, show (10000 : Nat) = 9999 + 1 from rfl, run_equalIn_agg w 9999 48 _ _ hS hp]
  simp only [Program.fieldsOf, Try.underlying48]
  go_simp
  by_cases h1 : xk = yk
  · by_cases h2 : xn = yn
    · have h3 : ¬ xs = ys := fun e => h (by rw [h1, h2, e])
      simp [h1, h2]
      exact fun e => h3 (toList_inj e)
    · simp [h1, h2]
  · simp [h1]

set_option maxRecDepth 100000 in
set_option maxHeartbeats 400000 in
theorem LessT_any (A A' : Option Addr) (c c' : Nat) (a b : List V3) (ha : a.length ≤ maxLen) (_hb : b.length ≤ maxLen) (w : World) (hr : Row w A a) (hr' : Row w A' b) :
    Calls Try.prog 63 #[.slice A a.length c, .slice A' b.length c'] w fun e w' => e = .returned (.bool (lessT a b)) ∧ Below w.heap.size w w' := by
  unfold maxLen at ha
  have HR := Lib.hid hr
  have HR' := Lib.hid hr'
  clear hr hr'
  go_enter Try.func63, Try.ntmps63
  go_wp2
  go_loopw [5] (fun i wr => ∃ k : Nat, k ≤ a.length ∧ k ≤ b.length ∧ i = .int .i64 k ∧ Hid (lessT a b = lessT (a.drop k) (b.drop k)) ∧ Hid (Below w.heap.size w wr)) (fun i _ => a.length - (intOf i).toNat)
  case atStart => exact ⟨0, Nat.zero_le _, Nat.zero_le _, rfl, rfl, Below.refl _ _⟩
  case round =>
    obtain ⟨k, hk, hk', rfl, HI, HB⟩ := hrel
    by_cases hlt : k < a.length
    · by_cases hlt' : k < b.length
      · obtain ⟨g, o, rfl, hgw, hc⟩ := HR.out.at_ hlt
        obtain ⟨g', o', rfl, hgw', hc'⟩ := HR'.out.at_ hlt'
        have HT := Lib.hid (HI.out.trans (less_step hlt hlt'))
        clear HI
        generalize a[k] = x at hc HT
        generalize b[k] = y at hc' HT
        obtain ⟨xk, xn, xs⟩ := x
        have hc0 := Lib.hid hc
        obtain ⟨c0, c1, c2⟩ := hc
        have c0 := (HB.out.cell hgw).trans c0
        have c1 := (HB.out.cell hgw).trans c1
        have c2 := (HB.out.cell hgw).trans c2
        obtain ⟨yk, yn, ys⟩ := y
        have hd0 := Lib.hid hc'
        obtain ⟨d0, d1, d2⟩ := hc'
        have d0 := (HB.out.cell hgw').trans d0
        have d1 := (HB.out.cell hgw').trans d1
        have d2 := (HB.out.cell hgw').trans d2
        simp only at c0 c1 c2 d0 d1 d2
        have hcc := hc0
        have hdd := hd0
        clear hc0 hd0
        by_cases hxy : ((xk, xn, xs) : V3) = (yk, yn, ys)
        · have HQ := Lib.hid (HT.out.trans (if_pos hxy))
          injection hxy with e1 e2
          injection e2 with e2 e3
          subst e1 e2 e3
          clear HT
          go_wp2_with fail
          go_quiet (fail)
          go_wp2
          go_roundw
          case rel => exact ⟨k + 1, by omega, by omega, by go_num, HQ.out, below_drewN HB.out nq⟩
          case measure => simp [intOf]; omega
        · have HQ := Lib.hid (HT.out.trans (if_neg hxy))
          have kn := fun w => neq3 hxy w
          clear HT hxy
          go_wp2_with fail
          go_quiet (fail)
          obtain ⟨w5, hw5⟩ : ∃ w5, w5 = wr.drewN nq := ⟨_, rfl⟩
          have B5 := Lib.hid (show Below w.heap.size w w5 by rw [hw5]; exact below_drewN HB.out nq)
          rw [← hw5]
          clear kn c0 c1 c2 d0 d1 d2 hw5
          obtain ⟨c0, c1, c2⟩ := hcc.out
          obtain ⟨d0, d1, d2⟩ := hdd.out
          simp only at c0 c1 c2 d0 d1 d2
          have c0 := (B5.out.cell hgw).trans c0
          have c1 := (B5.out.cell hgw).trans c1
          have c2 := (B5.out.cell hgw).trans c2
          have d0 := (B5.out.cell hgw').trans d0
          have d1 := (B5.out.cell hgw').trans d1
          have d2 := (B5.out.cell hgw').trans d2
          obtain ⟨w6, hw6⟩ : ∃ w6, w6 = w5.drew := ⟨_, rfl⟩
          have c0 : w6.cell? ⟨g, o + k * 3, none⟩ = some (.int .i64 xk) := by rw [hw6]; exact c0
          have c1 : w6.cell? ⟨g, o + k * 3 + 1, none⟩ = some (.int .i64 xn) := by rw [hw6]; exact c1
          have c2 : w6.cell? ⟨g, o + k * 3 + 2, none⟩ = some (.string xs) := by rw [hw6]; exact c2
          have d0 : w6.cell? ⟨g', o' + k * 3, none⟩ = some (.int .i64 yk) := by rw [hw6]; exact d0
          have d1 : w6.cell? ⟨g', o' + k * 3 + 1, none⟩ = some (.int .i64 yn) := by rw [hw6]; exact d1
          have d2 : w6.cell? ⟨g', o' + k * 3 + 2, none⟩ = some (.string ys) := by rw [hw6]; exact d2
          have B6 := Lib.hid (show Below w.heap.size w w6 by rw [hw6]; exact B5.out.drew)
          have HW := Lib.hid hw6
          clear hw6 B5 HB
          go_wp2_with fail
          refine wp_region_still_tail 8 (by kernel_rfl) (by kernel_rfl) ?_
          simp only [List.take_succ_cons, List.take_zero, List.drop_succ_cons, List.drop_zero]
          change wpStill _ _ (World.drew _) _ _ _
          rw [← HW.out]
          repeat still_step
          refine wpStill_nil ?_
          change wpList _ _ _ _ _ (World.drew _)
          rw [← HW.out]
          clear c0 c1 c2 d0 d1 d2
          go_wp2_with fail
          refine (Less_any xk xn xs yk yn ys _).mono ?_
          rintro e w7 ⟨rfl, b7⟩
          have B7 := Lib.hid (B6.out.trans (b7.mono B6.out.size))
          go_wp2
          go_ret
          exact ⟨ret_bool HQ.out.symm, B7.out⟩
      · have HQ := Lib.hid (show decide ((a.length : Int) < (b.length : Int)) = lessT a b by rw [HI.out, less_more hlt']; simp; omega)
        go_wp2
        go_ret
        exact ⟨ret_bool (by rw [← HQ.out]; simp), HB.out⟩
    · by_cases hlt' : k < b.length
      · have HQ := Lib.hid (show decide ((a.length : Int) < (b.length : Int)) = lessT a b by rw [HI.out, less_fewer hlt hlt']; simp; omega)
        go_wp2
        go_ret
        exact ⟨ret_bool (by rw [← HQ.out]; simp), HB.out⟩
      · have HQ := Lib.hid (show decide ((a.length : Int) < (b.length : Int)) = lessT a b by rw [HI.out, less_more hlt']; simp; omega)
        go_wp2
        go_ret
        exact ⟨ret_bool (by rw [← HQ.out]; simp), HB.out⟩
end Go.Proofs.Ytbahmkhnnahddaa
