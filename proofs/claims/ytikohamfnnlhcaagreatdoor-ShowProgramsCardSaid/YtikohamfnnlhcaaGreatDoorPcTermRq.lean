/- The document's terms, expressions and atoms: which are right. Conditions: texts of at most 2^47 bytes. -/
import Derived.Test.YtikohamfnnlhcaaGreatDoorScM
import Derived.Test.YtikohamfnnlhcaaGreatDoorPcTermI
set_option linter.unusedVariables false
set_option linter.unusedSimpArgs false
namespace Go.Proofs.YtikohamfnnlhcaaGreatDoor
open Go.RowKit Go.Deep Go.Shelf

theorem kindW_len {l : List UInt8} (h : kindW l = 2 ∨ kindW l = 3) : l.length ≤ 32 := by
  unfold kindW at h
  split at h
  · rcases h with h | h <;> cases h
  · split at h
    · rename_i hn
      unfold isName at hn
      simp only [Bool.and_eq_true, decide_eq_true_eq] at hn
      exact hn.1.2
    · split at h
      · rename_i hv
        cases l with
        | nil => exact Nat.zero_le _
        | cons c r =>
          unfold varB at hv
          simp only [Bool.and_eq_true, decide_eq_true_eq] at hv
          omega
      · split at h
        · rcases h with h | h <;> cases h
        · rcases h with h | h <;> cases h
/-- a name is short. -/
theorem sole_short {s : ByteArray} {q : Nat} (hq : q = 2 ∨ q = 3) (h : soleB q s = true) : s.size ≤ 40 := by
  unfold soleB at h
  have h := of_decide_eq_true h
  have hz : s.size = s.data.toList.length := by simp
  unfold tokOf at h
  split at h
  · rw [Option.map_eq_some_iff] at h
    obtain ⟨p, _, h2⟩ := h
    injection h2 with h2 _
    omega
  · split at h
    · cases h
    · injection h with h
      injection h with h1 h2
      have := kindW_len (l := s.data.toList.takeWhile wb) (by omega)
      rw [h2] at this
      omega
set_option maxHeartbeats 400000 in
theorem all_long (s : ByteArray) (w : World) (h1 : 4000 < s.size) (hs : s.size ≤ 140737488351232) :
    Calls Tryz.prog 100 #[.string s] w fun e w' => e = .returned (.tuple #[.slice none 0 0, .int .i64 4000, .int .i64 3]) ∧ w = w' := by
  have h2 : (4000 : Int) < (s.size : Int) := by omega
  go_enter Tryz.func100, Tryz.ntmps100
  go_wp2_with fail
  exact bodyPost_ret (v := .tuple #[.slice none 0 0, .int .i64 4000, .int .i64 3]) (by simp [results, Tryz.results100, go_sem]) rfl ⟨rfl, rfl⟩
set_option maxHeartbeats 400000 in
theorem sole_ref (s : ByteArray) (q : Nat) (b : Bool) (w : World) (h : soleB q s = b) (hs : s.size ≤ 140737488351232) (hq : q = 2 ∨ q = 3) :
    Calls Tryz.prog 66 #[.string s, .int .i64 q] w fun e w' => e = .returned (.bool b) ∧ Below w.heap.size w w' := by
  by_cases hl : s.size ≤ 4000
  · rw [← h]
    exact single_is s q w hl (by omega) (by omega)
  · have hf : b = false := by
      cases b with
      | false => rfl
      | true => have := sole_short hq h; omega
    subst hf
    have C := Lib.hid (all_long s w (by omega) hs)
    clear h hl hq
    go_enter Tryz.func66, Tryz.ntmps66
    go_wp2_with fail
    refine C.out.mono ?_
    rintro e w' ⟨rfl, rfl⟩
    go_wp2_with fail
    go_ret
    exact ⟨rfl, Below.refl _ _⟩
set_option maxHeartbeats 400000 in
theorem refVar_is (s : ByteArray) (b : Bool) (w : World) (h : soleB 3 s = b) (hs : s.size ≤ 140737488351232) : Calls Tryz.prog 113 #[.string s] w fun e w' => e = .returned (.bool b) ∧ Below w.heap.size w w' := by
  have C := Lib.hid (sole_ref s 3 b w h hs (.inr rfl))
  clear h
  go_enter Tryz.func113, Tryz.ntmps113
  go_wp2_with fail
  refine C.out.mono ?_
  rintro e w' ⟨rfl, hb⟩
  go_wp2_with fail
  go_ret
  exact ⟨rfl, hb⟩
set_option maxHeartbeats 400000 in
theorem refNamed_is (s : ByteArray) (b : Bool) (w : World) (h : soleB 2 s = b) (hs : s.size ≤ 140737488351232) : Calls Tryz.prog 35 #[.string s] w fun e w' => e = .returned (.bool b) ∧ Below w.heap.size w w' := by
  have C := Lib.hid (sole_ref s 2 b w h hs (.inl rfl))
  clear h
  go_enter Tryz.func35, Tryz.ntmps35
  go_wp2_with fail
  refine C.out.mono ?_
  rintro e w' ⟨rfl, hb⟩
  go_wp2_with fail
  go_ret
  exact ⟨rfl, hb⟩
set_option maxRecDepth 100000 in
/-- '==' on the document's terms. -/
theorem eqTmR (x y : TTm) (b : Bool) (h : decide (x = y) = b) (w : World) : (binOp .eql 72 (.agg #[.string x.v, .int .i64 x.k, .int .i64 x.n, .string x.s]) (.agg #[.string y.v, .int .i64 y.k, .int .i64 y.n, .string y.s])).run Tryz.prog w = .ok (.bool b) w := by
  have u3 := Tryz.underlying3
  have a3 := Tryz.isAgg3
  have z3 := Tryz.sizeOf3
  have uk := Tryz.underlying54
  have ak := Tryz.isAgg54
  have zk := Tryz.sizeOf54
  have us := Tryz.underlying9
  have aas := Tryz.isAgg9
  have zs := Tryz.sizeOf9
  have uv := Tryz.underlying56
  have av := Tryz.isAgg56
  have zv := Tryz.sizeOf56
  have hS : Tryz.prog.underlying 72 = some (.struct (Tryz.prog.fieldsOf 72)) := by kernel_rfl
  have hp : Tryz.prog.stoodInHeld 72 = false := by kernel_rfl
  have hS2 : Tryz.prog.underlying 56 = some (.struct (Tryz.prog.fieldsOf 56)) := by kernel_rfl
  have hp2 : Tryz.prog.stoodInHeld 56 = false := by kernel_rfl
  obtain ⟨xv, xk, xn, xs⟩ := x
  obtain ⟨yv, yk, yn, ys⟩ := y
  rw [← h]
  rw [run_eql_struct, show (10000 : Nat) = 9999 + 1 from rfl, run_equalIn_agg w 9999 72 _ _ hS hp]
  simp only [Program.fieldsOf, Tryz.underlying72]
  go_simp
  have e1 : (xv.toList = yv.toList) ↔ xv = yv := ⟨toList_inj', fun h => by rw [h]⟩
  have e2 : (xs.toList = ys.toList) ↔ xs = ys := ⟨toList_inj', fun h => by rw [h]⟩
  simp only [e1, e2]
  clear h u3 a3 z3 uk ak zk us aas zs uv av zv hS hp hS2 hp2 e1 e2
  by_cases h1 : xv = yv
  · by_cases h2 : xk = yk
    · by_cases h3 : xn = yn
      · by_cases h4 : xs = ys
        · simp [h1, h2, h3, h4]
        · simp [h1, h2, h3, h4]
      · simp [h1, h2, h3]
    · simp [h1, h2]
  · simp [h1]
set_option maxRecDepth 100000 in
set_option maxHeartbeats 400000 in
theorem refTm_is (t : TTm) (b : Bool) (w : World) (h : rightTm t = b) (ho : okTm t) : Calls Tryz.prog 87 #[tmV t] w fun r w' => r = .returned (.bool b) ∧ Below w.heap.size w w' := by
  unfold tmV
  unfold rightTm at h
  have ho1 := ho.1
  have ho2 : t.s.size ≤ maxLen := by have := ho.2; unfold maxLen; omega
  have hO : Own (w.alloc (.cells #[.string t.v, .int .i64 t.k, .int .i64 t.n, .string t.s] 72)) w.heap.size 72 [.string t.v, .int .i64 t.k, .int .i64 t.n, .string t.s] := heap_alloc_new _ _
  have HO := Lib.hid hO
  clear hO
  by_cases h0 : t.v.size = 0
  · rw [if_pos h0] at h
    have hz := beq0 h0
    have C : Hid (∀ W, Calls Tryz.prog 112 #[.agg #[.int .i64 t.k, .int .i64 t.n, .string t.s]] W fun e w' => e = .returned (.bool b) ∧ Below W.heap.size W w') := fun W => by rw [← h]; exact refRight_any t.k t.n t.s W ho2
    clear h h0
    go_enter Tryz.func87, Tryz.ntmps87
    go_wp2_with fail
    refine (C.out _).mono ?_
    rintro e w' ⟨rfl, hb⟩
    have HB : Hid (Below w.heap.size w w') := ((Below.refl _ _).alloc (Nat.le_refl _) _).trans (hb.mono (by simp))
    clear hb
    go_wp2_with fail
    go_ret
    exact ⟨rfl, HB.out⟩
  · rw [if_neg h0] at h
    have hz := beq0_not h0
    have C : Hid (∀ W, Calls Tryz.prog 113 #[.string t.v] W fun e w' => e = .returned (.bool (soleB 3 t.v)) ∧ Below W.heap.size W w') := fun W => refVar_is t.v _ W rfl ho1
    cases h1 : soleB 3 t.v with
    | false =>
      rw [h1] at h C
      subst h
      clear h1 h0
      go_enter Tryz.func87, Tryz.ntmps87
      go_wp2_with fail
      refine (C.out _).mono ?_
      rintro e w' ⟨rfl, hb⟩
      have HB : Hid (Below w.heap.size w w') := ((Below.refl _ _).alloc (Nat.le_refl _) _).trans (hb.mono (by simp))
      clear hb
      go_wp2_with fail
      go_ret
      exact ⟨rfl, HB.out⟩
    | true =>
      rw [h1] at h C
      rw [Bool.true_and] at h
      have kq := eqVal t b h
      clear h h1 h0
      go_enter Tryz.func87, Tryz.ntmps87
      go_wp2_with fail
      refine (C.out _).mono ?_
      rintro e w' ⟨rfl, hb⟩
      have HO2 := HO.out.below hb
      have c1 := HO2.cell 1
      have c2 := HO2.cell 2
      have c3 := HO2.cell 3
      simp only [List.getElem?_cons_zero, List.getElem?_cons_succ] at c1 c2 c3
      have HB : Hid (Below w.heap.size w w') := ((Below.refl _ _).alloc (Nat.le_refl _) _).trans (hb.mono (by simp))
      clear hb HO2
      go_wp2_with fail
      go_ret
      exact ⟨rfl, HB.out⟩
set_option maxRecDepth 100000 in
set_option maxHeartbeats 400000 in
theorem refZero_is (e : TEx) (A : Option Addr) (c : Nat) (b : Bool) (w : World) (h : zeroE e = b) : Calls Tryz.prog 57 #[exV e A c] w fun r w' => r = .returned (.bool b) ∧ Below w.heap.size w w' := by
  unfold exV
  unfold zeroE at h
  by_cases h0 : e.op = 0
  · have e0 : (e.op == 0) = true := by simp [h0]
    rw [decide_eq_true h0, Bool.true_and] at h
    by_cases h1 : e.kids.length = 0
    · have e1 := beq0 h1
      rw [decide_eq_true h1, Bool.and_true] at h
      have kq := eqTmR e.t zT b h
      unfold zT at kq
      simp only at kq
      clear h h0 h1
      go_enter Tryz.func57, Tryz.ntmps57
      go_wp2_with fail
      go_ret
      exact ⟨rfl, (Below.refl _ _).alloc (Nat.le_refl _) _⟩
    · have e1 := beq0_not h1
      rw [decide_eq_false h1, Bool.and_false] at h
      subst h
      clear h0 h1
      go_enter Tryz.func57, Tryz.ntmps57
      go_wp2_with fail
      go_ret
      exact ⟨rfl, (Below.refl _ _).alloc (Nat.le_refl _) _⟩
  · have e0 : (e.op == 0) = false := by simp [h0]
    rw [decide_eq_false h0, Bool.false_and] at h
    subst h
    clear h0
    go_enter Tryz.func57, Tryz.ntmps57
    go_wp2_with fail
    go_ret
    exact ⟨rfl, (Below.refl _ _).alloc (Nat.le_refl _) _⟩
set_option maxRecDepth 100000 in
set_option maxHeartbeats 1000000 in
theorem refEx_is (d : Nat) : ∀ (e : TEx) (n : Int) (A : Option Addr) (c : Nat) (b : Bool) (w : World), rightE d e = b → n = (d : Int) → n ≤ 1000 → ExV w e A →
    Calls Tryz.prog 58 #[exV e A c, .int .i64 n] w fun r w' => r = .returned (.bool b) ∧ Below w.heap.size w w' := by
  induction d with
  | zero =>
    intro e n A c b w h hn hn2 hV
    unfold exV
    have hO : Own (w.alloc (.cells #[.int .i64 e.op, .string e.t.v, .int .i64 e.t.k, .int .i64 e.t.n, .string e.t.s, .slice A e.kids.length c] 75)) w.heap.size 75 [.int .i64 e.op, .string e.t.v, .int .i64 e.t.k, .int .i64 e.t.n, .string e.t.s, .slice A e.kids.length c] := heap_alloc_new _ _
    have HO := Lib.hid hO
    have HV := Lib.hid hV
    clear hO
    by_cases h0 : e.op = 0
    · rw [rightE_leaf _ h0] at h
      have e0 : (e.op == 0) = true := by simp [h0]
      by_cases h1 : e.kids.length = 0
      · have e1 := beq0 h1
        rw [decide_eq_true h1, Bool.true_and] at h
        have C : Hid (∀ W, Calls Tryz.prog 87 #[.agg #[.string e.t.v, .int .i64 e.t.k, .int .i64 e.t.n, .string e.t.s]] W fun r w' => r = .returned (.bool b) ∧ Below W.heap.size W w') := fun W => refTm_is e.t b W h HV.out.ok
        clear h h0 h1 hn hV
        go_enter Tryz.func58, Tryz.ntmps58
        go_wp2_with fail
        refine (C.out _).mono ?_
        rintro r w' ⟨rfl, hb⟩
        have HB : Hid (Below w.heap.size w w') := ((Below.refl _ _).alloc (Nat.le_refl _) _).trans (hb.mono (by simp))
        clear hb
        go_wp2_with fail
        go_ret
        exact ⟨rfl, HB.out⟩
      · have e1 := beq0_not h1
        rw [decide_eq_false h1, Bool.false_and] at h
        subst h
        clear h0 h1 hn hV
        go_enter Tryz.func58, Tryz.ntmps58
        go_wp2_with fail
        go_ret
        exact ⟨rfl, (Below.refl _ _).alloc (Nat.le_refl _) _⟩
    · rw [rightE_deep h0] at h
      subst h
      have e0 : (e.op == 0) = false := by simp [h0]
      have e1 : ¬ 0 < n := by omega
      have e2 : decide (0 < n) = false := by simp; omega
      clear h0 hn hV
      go_enter Tryz.func58, Tryz.ntmps58
      go_wp2_with fail
      go_ret
      exact ⟨rfl, (Below.refl _ _).alloc (Nat.le_refl _) _⟩
  | succ d ih =>
    intro e n A c b w h hn hn2 hV
    unfold exV
    have hO : Own (w.alloc (.cells #[.int .i64 e.op, .string e.t.v, .int .i64 e.t.k, .int .i64 e.t.n, .string e.t.s, .slice A e.kids.length c] 75)) w.heap.size 75 [.int .i64 e.op, .string e.t.v, .int .i64 e.t.k, .int .i64 e.t.n, .string e.t.s, .slice A e.kids.length c] := heap_alloc_new _ _
    have HO := Lib.hid hO
    have HV := Lib.hid hV
    clear hO
    by_cases h0 : e.op = 0
    · rw [rightE_leaf _ h0] at h
      have e0 : (e.op == 0) = true := by simp [h0]
      by_cases h1 : e.kids.length = 0
      · have e1 := beq0 h1
        rw [decide_eq_true h1, Bool.true_and] at h
        have C : Hid (∀ W, Calls Tryz.prog 87 #[.agg #[.string e.t.v, .int .i64 e.t.k, .int .i64 e.t.n, .string e.t.s]] W fun r w' => r = .returned (.bool b) ∧ Below W.heap.size W w') := fun W => refTm_is e.t b W h HV.out.ok
        clear h h0 h1 hn hV
        go_enter Tryz.func58, Tryz.ntmps58
        go_wp2_with fail
        refine (C.out _).mono ?_
        rintro r w' ⟨rfl, hb⟩
        have HB : Hid (Below w.heap.size w w') := ((Below.refl _ _).alloc (Nat.le_refl _) _).trans (hb.mono (by simp))
        clear hb
        go_wp2_with fail
        go_ret
        exact ⟨rfl, HB.out⟩
      · have e1 := beq0_not h1
        rw [decide_eq_false h1, Bool.false_and] at h
        subst h
        clear h0 h1 hn hV
        go_enter Tryz.func58, Tryz.ntmps58
        go_wp2_with fail
        go_ret
        exact ⟨rfl, (Below.refl _ _).alloc (Nat.le_refl _) _⟩
    · rw [rightE_node _ h0] at h
      have e0 : (e.op == 0) = false := by simp [h0]
      have e1 : 0 < n := by omega
      have e2 : decide (0 < n) = true := by simp; omega
      have HN : Hid (n - 1 = (d : Int)) := by show _ = _; omega
      have hn0 : -1 ≤ n - 1 := by omega
      clear h0 hn hV
      by_cases h1 : 1 ≤ e.op
      · have d1 : decide (1 ≤ e.op) = true := by simpa using h1
        by_cases h2 : e.op ≤ 3
        · have d2 : decide (e.op ≤ 3) = true := by simpa using h2
          rw [decide_eq_true (show 1 ≤ e.op ∧ e.op ≤ 3 from ⟨h1, h2⟩), Bool.true_and] at h
          by_cases h3 : e.kids.length = 2
          · have e3 : ((e.kids.length : Int) == 2) = true := by simp [h3]
            cases h4 : decide (e.t = zT) with
            | false =>
              have kq := eqTmR e.t zT false h4
              rw [h4, Bool.false_and] at h
              subst h
              unfold zT at kq
              simp only at kq
              clear h3 h4 HN
              go_enter Tryz.func58, Tryz.ntmps58
              go_wp2_with fail
              go_ret
              exact ⟨rfl, (Below.refl _ _).alloc (Nat.le_refl _) _⟩
            | true =>
              have kq := eqTmR e.t zT true h4
              rw [h4, Bool.true_and] at h
              unfold zT at kq
              simp only at kq
              obtain ⟨x, y, hxy⟩ := two_of h3
              rw [hxy] at h
              simp only at h
              have k0 : e.kids[0]'(by omega) = x := by simp [hxy]
              have k1 : e.kids[1]'(by omega) = y := by simp [hxy]
              obtain ⟨g, o, rfl, hgw, hx⟩ := HV.out.row.at_ (k := 0) (by omega)
              obtain ⟨g', o', hA', _, hy⟩ := HV.out.row.at_ (k := 1) (by omega)
              injection hA' with hA'
              injection hA' with q1 q2 _
              subst q1 q2
              rw [k0] at hx
              rw [k1] at hy
              clear k0 k1 hxy
              rw [Nat.zero_mul, Nat.add_zero] at hx
              rw [Nat.one_mul] at hy
              obtain ⟨X, xc, x0, x1, x2, x3, x4, x5, hxV⟩ := hx.open_
              obtain ⟨Y, yc, y0, y1, y2, y3, y4, y5, hyV⟩ := hy.open_
              have CX : Hid (∀ W, Below w.heap.size w W → Calls Tryz.prog 58 #[exV x X xc, .int .i64 (n - 1)] W fun r w' => r = .returned (.bool (rightE d x)) ∧ Below W.heap.size W w') := fun W hb => ih x (n - 1) X xc _ W rfl HN.out (by omega) (hxV.below hb)
              have CY : Hid (∀ W, Below w.heap.size w W → Calls Tryz.prog 58 #[exV y Y yc, .int .i64 (n - 1)] W fun r w' => r = .returned (.bool (rightE d y)) ∧ Below W.heap.size W w') := fun W hb => ih y (n - 1) Y yc _ W rfl HN.out (by omega) (hyV.below hb)
              have HB0 : Hid (Below w.heap.size w (w.alloc (.cells #[.int .i64 e.op, .string e.t.v, .int .i64 e.t.k, .int .i64 e.t.n, .string e.t.s, .slice (some ⟨g, o, none⟩) e.kids.length c] 75))) := (Below.refl w.heap.size w).alloc (Nat.le_refl _) _
              have hk2 : (0 : Int) < (e.kids.length : Int) := by omega
              have hk3 : (1 : Int) < (e.kids.length : Int) := by omega
              have hk4 : 0 < e.kids.length := by omega
              have hk5 : 1 < e.kids.length := by omega
              have Y0 := Lib.hid y0
              have Y1 := Lib.hid y1
              have Y2 := Lib.hid y2
              have Y3 := Lib.hid y3
              have Y4 := Lib.hid y4
              have Y5 := Lib.hid y5
              clear hx hy hxV hyV h3 h4 y0 y1 y2 y3 y4 y5 ih HV HN
              unfold exV at CX CY
              cases h5 : rightE d x with
              | false =>
                rw [h5, Bool.false_and] at h
                rw [h5] at CX
                subst h
                clear h5
                go_enter Tryz.func58, Tryz.ntmps58
                go_wp2_with fail
                refine (CX.out _ HB0.out).mono ?_
                rintro r w' ⟨rfl, hb⟩
                have HB : Hid (Below w.heap.size w w') := HB0.out.trans (hb.mono (by simp))
                clear hb
                go_wp2_with fail
                go_ret
                exact ⟨rfl, HB.out⟩
              | true =>
                rw [h5, Bool.true_and] at h
                rw [h5] at CX
                rw [h] at CY
                clear h5 h
                go_enter Tryz.func58, Tryz.ntmps58
                go_wp2_with fail
                refine (CX.out _ HB0.out).mono ?_
                rintro r w' ⟨rfl, hb⟩
                have HB : Hid (Below w.heap.size w w') := HB0.out.trans (hb.mono (by simp))
                have HO2 := HO.out.below hb
                have c5 := HO2.cell 5
                simp only [List.getElem?_cons_zero, List.getElem?_cons_succ] at c5
                clear hb HO2 x0 x1 x2 x3 x4 x5
                have y0 := (HB.out.cell (p := ⟨g, _, none⟩) hgw).trans Y0.out
                have y1 := (HB.out.cell (p := ⟨g, _, none⟩) hgw).trans Y1.out
                have y2 := (HB.out.cell (p := ⟨g, _, none⟩) hgw).trans Y2.out
                have y3 := (HB.out.cell (p := ⟨g, _, none⟩) hgw).trans Y3.out
                have y4 := (HB.out.cell (p := ⟨g, _, none⟩) hgw).trans Y4.out
                have y5 := (HB.out.cell (p := ⟨g, _, none⟩) hgw).trans Y5.out
                go_wp2_with fail
                refine (CY.out _ HB.out).mono ?_
                rintro r w2 ⟨rfl, hb⟩
                have HB2 : Hid (Below w.heap.size w w2) := HB.out.trans (hb.mono HB.out.size)
                clear hb
                go_wp2_with fail
                go_ret
                exact ⟨rfl, HB2.out⟩
          · have e3 : ((e.kids.length : Int) == 2) = false := by simp only [beq_eq_false_iff_ne]; omega
            have hf : b = false := by rw [← h, not_two d e.kids h3, Bool.and_false]
            subst hf
            clear h h3 HN
            go_enter Tryz.func58, Tryz.ntmps58
            go_wp2_with fail
            go_ret
            exact ⟨rfl, (Below.refl _ _).alloc (Nat.le_refl _) _⟩
        · have d2 : decide (e.op ≤ 3) = false := by simp; omega
          rw [decide_eq_false (show ¬ (1 ≤ e.op ∧ e.op ≤ 3) from fun h => h2 h.2), Bool.false_and] at h
          subst h
          clear h2 HN
          go_enter Tryz.func58, Tryz.ntmps58
          go_wp2_with fail
          go_ret
          exact ⟨rfl, (Below.refl _ _).alloc (Nat.le_refl _) _⟩
      · have d1 : decide (1 ≤ e.op) = false := by simp; omega
        rw [decide_eq_false (show ¬ (1 ≤ e.op ∧ e.op ≤ 3) from fun h => h1 h.1), Bool.false_and] at h
        subst h
        clear h1 HN
        go_enter Tryz.func58, Tryz.ntmps58
        go_wp2_with fail
        go_ret
        exact ⟨rfl, (Below.refl _ _).alloc (Nat.le_refl _) _⟩
set_option maxRecDepth 100000 in
set_option maxHeartbeats 400000 in
theorem refExp_is (e : TEx) (A : Option Addr) (c : Nat) (b : Bool) (w : World) (h : rightE 20 e = b) (hV : ExV w e A) : Calls Tryz.prog 28 #[exV e A c] w fun r w' => r = .returned (.bool b) ∧ Below w.heap.size w w' := by
  have C := Lib.hid (refEx_is 20 e 20 A c b (w.alloc (.cells #[.int .i64 e.op, .string e.t.v, .int .i64 e.t.k, .int .i64 e.t.n, .string e.t.s, .slice A e.kids.length c] 75)) h rfl (by omega) (hV.below ((Below.refl _ _).alloc (Nat.le_refl _) _)))
  unfold exV at C ⊢
  clear h hV
  go_enter Tryz.func28, Tryz.ntmps28
  go_wp2_with fail
  refine C.out.mono ?_
  rintro r w' ⟨rfl, hb⟩
  have HB : Hid (Below w.heap.size w w') := ((Below.refl _ _).alloc (Nat.le_refl _) _).trans (hb.mono (by simp))
  clear hb
  go_wp2_with fail
  go_ret
  exact ⟨rfl, HB.out⟩
set_option maxRecDepth 100000 in
set_option maxHeartbeats 1000000 in
theorem refAm_is (a : TAm) (A : Option Addr) (c : Nat) (b : Bool) (w : World) (h : rightAm a = b) (hV : AmV w a A) : Calls Tryz.prog 55 #[amV a A c] w fun r w' => r = .returned (.bool b) ∧ Below w.heap.size w w' := by
  unfold amV
  unfold rightAm at h
  have H := Lib.hid h
  have hO : Own (w.alloc (.cells #[.string a.rel, .slice A a.args.length c] 67)) w.heap.size 67 [.string a.rel, .slice A a.args.length c] := heap_alloc_new _ _
  have HO := Lib.hid hO
  have HB0 : Hid (Below w.heap.size w (w.alloc (.cells #[.string a.rel, .slice A a.args.length c] 67))) := (Below.refl w.heap.size w).alloc (Nat.le_refl _) _
  have HV := Lib.hid hV
  have hlen := hV.row.1
  have hok := hV.ok
  have HQ : Hid (w.heap.size < (w.alloc (.cells #[.string a.rel, .slice A a.args.length c] 67)).heap.size) := by show _ < _; simp
  clear hO hV h
  go_enter Tryz.func55, Tryz.ntmps55
  go_wp2_with fail
  generalize hW0 : w.alloc (.cells #[.string a.rel, .slice A a.args.length c] 67) = W0 at HO HB0 HQ ⊢
  obtain ⟨b1, hb1⟩ : ∃ b, b = w.heap.size := ⟨_, rfl⟩
  rw [← hb1] at HO HQ
  rw [show (Value.pointer (some ⟨w.heap.size, 0, none⟩)) = .pointer (some ⟨b1, 0, none⟩) by rw [hb1]]
  clear hW0 hb1
  go_loopw [3] (fun i wr => ∃ j : Nat, j ≤ a.args.length ∧ j ≤ 6 ∧ i = .int .i64 j ∧ Hid (a.args.all rightTm = (a.args.drop j).all rightTm) ∧ Hid (Below W0.heap.size W0 wr)) (fun i _ => a.args.length - (intOf i).toNat)
  case atStart => exact ⟨0, Nat.zero_le _, by omega, rfl, Lib.hid rfl, Lib.hid (Below.refl _ _)⟩
  case round =>
    obtain ⟨j, hj, hj6, rfl, HX, HB⟩ := hrel
    have HO1 := HO.out.below HB.out
    have c0 := HO1.cell 0
    have c1 := HO1.cell 1
    simp only [List.getElem?_cons_zero, List.getElem?_cons_succ] at c0 c1
    have cq := HO1.lt
    clear HO1
    by_cases hlt : j < a.args.length
    · by_cases h6 : j ≤ 5
      · obtain ⟨g, o, rfl, hgw, t0, t1, t2, t3, hok2⟩ := HV.out.row.at_ hlt
        have t0 := ((HB0.out.trans (HB.out.mono HB0.out.size)).cell (p := ⟨g, _, none⟩) hgw).trans t0
        have t1 := ((HB0.out.trans (HB.out.mono HB0.out.size)).cell (p := ⟨g, _, none⟩) hgw).trans t1
        have t2 := ((HB0.out.trans (HB.out.mono HB0.out.size)).cell (p := ⟨g, _, none⟩) hgw).trans t2
        have t3 := ((HB0.out.trans (HB.out.mono HB0.out.size)).cell (p := ⟨g, _, none⟩) hgw).trans t3
        have HS : Hid ((a.args.drop j).all rightTm = (rightTm a.args[j] && (a.args.drop (j + 1)).all rightTm)) := by show _ = _; rw [List.drop_eq_getElem_cons hlt, List.all_cons]
        have HE := Lib.hid (HX.out.trans HS.out)
        have C : Hid (∀ W, Calls Tryz.prog 87 #[tmV a.args[j]] W fun r w' => r = .returned (.bool (rightTm a.args[j])) ∧ Below W.heap.size W w') := fun W => refTm_is a.args[j] _ W rfl hok2
        unfold tmV at C
        clear HS HX hok2
        generalize a.args[j] = y at *
        have d5 : decide (5 < j) = false := by simp; omega
        cases hb : rightTm y with
        | false =>
          rw [hb] at C HE
          rw [Bool.false_and] at HE
          clear hb
          go_wp2_with fail
          refine (C.out _).mono ?_
          rintro r w' ⟨rfl, hb⟩
          have HB' := HB.out.trans (hb.mono HB.out.size)
          have HBF := Lib.hid (HB0.out.trans (HB'.mono HB0.out.size))
          clear hb HB'
          go_wp2_with fail
          go_ret
          have HF : Hid (b = false) := by show _ = _; rw [← H.out, HE.out, Bool.and_false, Bool.and_false]
          exact ⟨by rw [HF.out]; rfl, HBF.out⟩
        | true =>
          rw [hb] at C HE
          rw [Bool.true_and] at HE
          clear hb
          go_wp2_with fail
          refine (C.out _).mono ?_
          rintro r w' ⟨rfl, hb⟩
          have HB' : Hid (Below W0.heap.size W0 w') := HB.out.trans (hb.mono HB.out.size)
          clear hb
          go_wp2_with fail
          go_roundw
          case rel => exact ⟨j + 1, by omega, by omega, by go_num, HE, HB'⟩
          case measure => simp [intOf]; omega
      · have d5 : decide (5 < j) = true := by simp; omega
        have HF : Hid (b = false) := by show _ = _; rw [← H.out, decide_eq_false (show ¬ a.args.length ≤ 6 by omega), Bool.false_and, Bool.and_false]
        have HBF := Lib.hid (HB0.out.trans (HB.out.mono HB0.out.size))
        clear HX
        go_wp2_with fail
        go_ret
        exact ⟨by rw [HF.out]; rfl, HBF.out⟩
    · have HN : Hid (soleB 2 a.rel = b) := by show _ = _; rw [← H.out, decide_eq_true (show a.args.length ≤ 6 by omega), HX.out, List.drop_eq_nil_of_le (by omega)]; simp
      have C : Hid (∀ W, Calls Tryz.prog 35 #[.string a.rel] W fun r w' => r = .returned (.bool b) ∧ Below W.heap.size W w') := fun W => refNamed_is a.rel b W HN.out hok
      clear HX HN
      go_wp2_with fail
      refine (C.out _).mono ?_
      rintro r w' ⟨rfl, hb⟩
      have HB' := HB.out.trans (hb.mono HB.out.size)
      have HBF := Lib.hid (HB0.out.trans (HB'.mono HB0.out.size))
      clear hb HB'
      go_wp2_with fail
      go_ret
      exact ⟨rfl, HBF.out⟩
end Go.Proofs.YtikohamfnnlhcaaGreatDoor
