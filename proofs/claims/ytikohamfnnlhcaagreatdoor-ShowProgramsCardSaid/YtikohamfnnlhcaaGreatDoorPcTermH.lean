/- What is right: lists of terms and of kinds; atoms, declarations, what is zero. Conditions: texts of at most 2^47 bytes; lex's two tables and strconv's variables as they are laid. -/
import Derived.Test.YtikohamfnnlhcaaGreatDoorScD
set_option linter.unusedVariables false
set_option linter.unusedSimpArgs false
namespace Go.Proofs.YtikohamfnnlhcaaGreatDoor
open Go.RowKit Go.Deep Go.Shelf

theorem IntC.pers_int {w w' : World} (hp : Pers w w') {b o : Nat} {n : Int} (h : IntC w b o n) : IntC w' b o n := hp.2 _ _ h

set_option maxRecDepth 100000 in
set_option maxHeartbeats 400000 in
theorem everyTm_any (A : Option Addr) (c : Nat) (l : List TTm) (m : Int) (w : World) (hV : Rg 4 TmC w A l) (hL : Lays w) :
    Calls Tryz.prog 107 #[.slice A l.length c, .int .i64 m, .func (.func 108) #[] #[]] w fun r w' => r = .returned (.bool (decide ((l.length : Int) ≤ m) && l.all rightTm)) ∧ Below w.heap.size w w' := by
  have HV := Lib.hid hV
  have hlen := hV.1
  have HL := Lib.hid hL
  clear hV hL
  by_cases hm : (l.length : Int) ≤ m
  · have HM : Hid (decide ((l.length : Int) ≤ m) = true) := by show _ = _; simp [hm]
    go_enter Tryz.func107, Tryz.ntmps107
    go_wp2_with fail
    go_loopw [15] (fun i wr => ∃ j : Nat, j ≤ l.length ∧ i = .int .i64 j ∧ Hid (l.all rightTm = (l.drop j).all rightTm) ∧ Hid (Below w.heap.size w wr)) (fun i _ => l.length - (intOf i).toNat)
    case atStart => exact ⟨0, Nat.zero_le _, rfl, Lib.hid rfl, Lib.hid (Below.refl _ _)⟩
    case round =>
      obtain ⟨j, hj, rfl, HX, HB⟩ := hrel
      by_cases hlt : j < l.length
      · obtain ⟨b, o, rfl, hbw, hc⟩ := HV.out.at_ hlt
        have HS : Hid ((l.drop j).all rightTm = (rightTm l[j] && (l.drop (j + 1)).all rightTm)) := by show _ = _; rw [List.drop_eq_getElem_cons hlt, List.all_cons]
        have hc := hc.pers (Pers.of HB.out)
        obtain ⟨c0, c1, c2, c3, hok⟩ := hc
        generalize l[j] = y at *
        cases hb : rightTm y with
        | false =>
          have HE := Lib.hid (HX.out.trans HS.out)
          rw [hb, Bool.false_and] at HE
          have C := Lib.hid (tmRight_is y _ _ hb hok (HL.out.below (HB.out.alloc (o := .cells #[.string y.v, .int .i64 y.k, .int .i64 y.n, .string y.s] 58) HB.out.size)))
          clear HX HS hb
          go_wp2_with fail
          refine C.out.mono ?_
          rintro e w' ⟨rfl, hb⟩
          have HB' : Hid (Below w.heap.size w w') := (HB.out.alloc HB.out.size _).trans (hb.mono (by simp; have := HB.out.size; omega))
          clear hb
          go_wp2_with fail
          go_ret
          exact ⟨by rw [HE.out]; simp, HB'.out⟩
        | true =>
          have HE := Lib.hid (HX.out.trans HS.out)
          rw [hb, Bool.true_and] at HE
          have C := Lib.hid (tmRight_is y _ _ hb hok (HL.out.below (HB.out.alloc (o := .cells #[.string y.v, .int .i64 y.k, .int .i64 y.n, .string y.s] 58) HB.out.size)))
          clear HX HS hb
          go_wp2_with fail
          refine C.out.mono ?_
          rintro e w' ⟨rfl, hb⟩
          have HB' : Hid (Below w.heap.size w w') := (HB.out.alloc HB.out.size _).trans (hb.mono (by simp; have := HB.out.size; omega))
          clear hb
          go_wp2_with fail
          go_roundw
          case rel => exact ⟨j + 1, by omega, by go_num, HE, HB'⟩
          case measure => simp [intOf]; omega
      · have HE : Hid ((l.drop j).all rightTm = true) := by show _ = _; rw [List.drop_eq_nil_of_le (by omega)]; rfl
        have HE := Lib.hid (HX.out.trans HE.out)
        clear HX
        go_wp2_with fail
        go_ret
        exact ⟨by rw [HE.out, HM.out]; rfl, HB.out⟩
  · have HM : Hid (decide ((l.length : Int) ≤ m) = false) := by show _ = _; simp only [decide_eq_false_iff_not]; exact hm
    have hm' : m < (l.length : Int) := by omega
    clear hm
    go_enter Tryz.func107, Tryz.ntmps107
    go_wp2_with fail
    go_ret
    exact ⟨by rw [HM.out]; simp, Below.refl _ _⟩

set_option maxRecDepth 100000 in
set_option maxHeartbeats 400000 in
theorem everyKd_any (A : Option Addr) (c : Nat) (l : List Int) (m : Int) (w : World) (hV : Rg 1 IntC w A l) (hL : Lays w) :
    Calls Tryz.prog 102 #[.slice A l.length c, .int .i64 m, .func (.func 103) #[] #[]] w fun r w' => r = .returned (.bool (decide ((l.length : Int) ≤ m) && l.all kindB)) ∧ Below w.heap.size w w' := by
  have HV := Lib.hid hV
  have hlen := hV.1
  have HL := Lib.hid hL
  clear hV hL
  by_cases hm : (l.length : Int) ≤ m
  · have HM : Hid (decide ((l.length : Int) ≤ m) = true) := by show _ = _; simp [hm]
    go_enter Tryz.func102, Tryz.ntmps102
    go_wp2_with fail
    go_loopw [15] (fun i wr => ∃ j : Nat, j ≤ l.length ∧ i = .int .i64 j ∧ Hid (l.all kindB = (l.drop j).all kindB) ∧ Hid (Below w.heap.size w wr)) (fun i _ => l.length - (intOf i).toNat)
    case atStart => exact ⟨0, Nat.zero_le _, rfl, Lib.hid rfl, Lib.hid (Below.refl _ _)⟩
    case round =>
      obtain ⟨j, hj, rfl, HX, HB⟩ := hrel
      by_cases hlt : j < l.length
      · obtain ⟨b, o, rfl, hbw, hc⟩ := HV.out.at_ hlt
        have HS : Hid ((l.drop j).all kindB = (kindB l[j] && (l.drop (j + 1)).all kindB)) := by show _ = _; rw [List.drop_eq_getElem_cons hlt, List.all_cons]
        have hc := hc.pers_int (Pers.of HB.out)
        unfold IntC at hc
        rw [Nat.mul_one] at hc
        generalize l[j] = y at *
        cases hb : kindB y with
        | false =>
          have HE := Lib.hid (HX.out.trans HS.out)
          rw [hb, Bool.false_and] at HE
          have C := Lib.hid (columnKind_is y _ hb wr)
          clear HX HS hb
          go_wp2_with fail
          refine C.out.mono ?_
          rintro e w' ⟨rfl, rfl⟩
          have HB' := HB
          go_wp2_with fail
          go_ret
          exact ⟨by rw [HE.out]; simp, HB'.out⟩
        | true =>
          have HE := Lib.hid (HX.out.trans HS.out)
          rw [hb, Bool.true_and] at HE
          have C := Lib.hid (columnKind_is y _ hb wr)
          clear HX HS hb
          go_wp2_with fail
          refine C.out.mono ?_
          rintro e w' ⟨rfl, rfl⟩
          have HB' := HB
          go_wp2_with fail
          go_roundw
          case rel => exact ⟨j + 1, by omega, by go_num, HE, HB'⟩
          case measure => simp [intOf]; omega
      · have HE : Hid ((l.drop j).all kindB = true) := by show _ = _; rw [List.drop_eq_nil_of_le (by omega)]; rfl
        have HE := Lib.hid (HX.out.trans HE.out)
        clear HX
        go_wp2_with fail
        go_ret
        exact ⟨by rw [HE.out, HM.out]; rfl, HB.out⟩
  · have HM : Hid (decide ((l.length : Int) ≤ m) = false) := by show _ = _; simp only [decide_eq_false_iff_not]; exact hm
    have hm' : m < (l.length : Int) := by omega
    clear hm
    go_enter Tryz.func102, Tryz.ntmps102
    go_wp2_with fail
    go_ret
    exact ⟨by rw [HM.out]; simp, Below.refl _ _⟩
set_option maxRecDepth 100000 in
set_option maxHeartbeats 400000 in
theorem amRight_is (a : TAm) (A : Option Addr) (c : Nat) (b : Bool) (w : World) (h : rightAm a = b) (hV : AmV w a A) (hL : Lays w) : Calls Tryz.prog 75 #[amV a A c] w fun r w' => r = .returned (.bool b) ∧ Below w.heap.size w w' := by
  unfold amV
  unfold rightAm at h
  have hb0 : Below w.heap.size w (w.alloc (.cells #[.string a.rel, .slice A a.args.length c] 49)) := (Below.refl w.heap.size w).alloc (Nat.le_refl _) _
  have HL := Lib.hid (hL.below hb0)
  have HV := Lib.hid (hV.below hb0)
  have hok := hV.ok
  clear hb0
  cases h1 : soleB 2 a.rel with
  | false =>
    rw [h1, Bool.false_and] at h
    subst h
    have C := Lib.hid (relation_is a.rel false _ h1 hok HL.out)
    clear h1 hL hV
    go_enter Tryz.func75, Tryz.ntmps75
    go_wp2_with fail
    refine C.out.mono ?_
    rintro e w' ⟨rfl, hb⟩
    have HB : Hid (Below w.heap.size w w') := ((Below.refl _ _).alloc (Nat.le_refl _) _).trans (hb.mono (by simp))
    clear hb
    go_wp2_with fail
    go_ret
    exact ⟨rfl, HB.out⟩
  | true =>
    rw [h1, Bool.true_and] at h
    have C := Lib.hid (relation_is a.rel true _ h1 hok HL.out)
    have H := Lib.hid h
    clear h1 hL hV h
    go_enter Tryz.func75, Tryz.ntmps75
    go_wp2_with fail
    refine C.out.mono ?_
    rintro e w' ⟨rfl, hb⟩
    have c1 := (hb.cell (p := ⟨w.heap.size, 1, none⟩) (by simp)).trans ((World.cell?_alloc_new _ _ _ _).trans rfl)
    have HB : Hid (Below w.heap.size w w') := ((Below.refl _ _).alloc (Nat.le_refl _) _).trans (hb.mono (by simp))
    have C2 := Lib.hid (everyTm_any A c a.args 6 w' (HV.out.below hb).row (HL.out.below hb))
    clear hb
    go_wp2_with fail
    refine C2.out.mono ?_
    rintro e w2 ⟨rfl, hb⟩
    have HB2 : Hid (Below w.heap.size w w2) := HB.out.trans (hb.mono HB.out.size)
    clear hb
    have hl : decide ((a.args.length : Int) ≤ 6) = decide (a.args.length ≤ 6) := by congr 1; exact propext ⟨fun h => by omega, fun h => by omega⟩
    rw [hl, H.out]
    clear hl
    go_wp2_with fail
    go_ret
    exact ⟨rfl, HB2.out⟩
set_option maxRecDepth 100000 in
set_option maxHeartbeats 400000 in
theorem deRight_is (a : TDe) (A : Option Addr) (c : Nat) (b : Bool) (w : World) (h : rightDe a = b) (hok : a.rel.size ≤ 140737488351232) (hV : Rg 1 IntC w A a.kinds) (hL : Lays w) :
    Calls Tryz.prog 68 #[.agg #[.string a.rel, .slice A a.kinds.length c, .int .i64 a.pos]] w fun r w' => r = .returned (.bool b) ∧ Below w.heap.size w w' := by
  unfold rightDe at h
  have hb0 : Below w.heap.size w (w.alloc (.cells #[.string a.rel, .slice A a.kinds.length c, .int .i64 a.pos] 100)) := (Below.refl w.heap.size w).alloc (Nat.le_refl _) _
  have HL := Lib.hid (hL.below hb0)
  have HV := Lib.hid (hV.int (Pers.of hb0))
  clear hb0
  cases h1 : soleB 2 a.rel with
  | false =>
    rw [h1, Bool.false_and] at h
    subst h
    have C := Lib.hid (relation_is a.rel false _ h1 hok HL.out)
    clear h1 hL hV
    go_enter Tryz.func68, Tryz.ntmps68
    go_wp2_with fail
    refine C.out.mono ?_
    rintro e w' ⟨rfl, hb⟩
    have HB : Hid (Below w.heap.size w w') := ((Below.refl _ _).alloc (Nat.le_refl _) _).trans (hb.mono (by simp))
    clear hb
    go_wp2_with fail
    go_ret
    exact ⟨rfl, HB.out⟩
  | true =>
    rw [h1, Bool.true_and] at h
    have C := Lib.hid (relation_is a.rel true _ h1 hok HL.out)
    have H := Lib.hid h
    clear h1 hL hV h
    go_enter Tryz.func68, Tryz.ntmps68
    go_wp2_with fail
    refine C.out.mono ?_
    rintro e w' ⟨rfl, hb⟩
    have c1 := (hb.cell (p := ⟨w.heap.size, 1, none⟩) (by simp)).trans ((World.cell?_alloc_new _ _ _ _).trans rfl)
    have HB : Hid (Below w.heap.size w w') := ((Below.refl _ _).alloc (Nat.le_refl _) _).trans (hb.mono (by simp))
    have C2 := Lib.hid (everyKd_any A c a.kinds 6 w' (HV.out.int (Pers.of hb)) (HL.out.below hb))
    clear hb
    go_wp2_with fail
    refine C2.out.mono ?_
    rintro e w2 ⟨rfl, hb⟩
    have HB2 : Hid (Below w.heap.size w w2) := HB.out.trans (hb.mono HB.out.size)
    clear hb
    have hl : decide ((a.kinds.length : Int) ≤ 6) = decide (a.kinds.length ≤ 6) := by congr 1; exact propext ⟨fun h => by omega, fun h => by omega⟩
    rw [hl, H.out]
    clear hl
    go_wp2_with fail
    go_ret
    exact ⟨rfl, HB2.out⟩
set_option maxRecDepth 100000 in
set_option maxHeartbeats 400000 in
theorem exZero_is (e : TEx) (A : Option Addr) (c : Nat) (b : Bool) (w : World) (h : zeroE e = b) : Calls Tryz.prog 80 #[exV e A c] w fun r w' => r = .returned (.bool b) ∧ Below w.heap.size w w' := by
  unfold exV
  unfold zeroE at h
  by_cases h1 : e.op = 0
  · have e1 : (e.op == 0) = true := by simp [h1]
    rw [decide_eq_true h1, Bool.true_and] at h
    cases h2 : decide (e.t = zT) with
    | false =>
      rw [h2, Bool.false_and] at h
      subst h
      have kq := eqTm e.t zT false h2
      unfold zT at kq
      clear h1 h2
      go_enter Tryz.func80, Tryz.ntmps80
      go_wp2_with fail
      go_ret
      exact ⟨rfl, (Below.refl _ _).alloc (Nat.le_refl _) _⟩
    | true =>
      rw [h2, Bool.true_and] at h
      have kq := eqTm e.t zT true h2
      unfold zT at kq
      have C : Hid (∀ W, Calls Tryz.prog 110 #[.agg #[.int .i64 e.op, .string e.t.v, .int .i64 e.t.k, .int .i64 e.t.n, .string e.t.s, .slice A e.kids.length c]] W fun r w' => r = .returned (.bool b) ∧ Below W.heap.size W w') := fun W => leaf_is e A c b h W
      clear h1 h2 h
      go_enter Tryz.func80, Tryz.ntmps80
      go_wp2_with fail
      refine (C.out _).mono ?_
      rintro r w' ⟨rfl, hb⟩
      have HB : Hid (Below w.heap.size w w') := ((Below.refl _ _).alloc (Nat.le_refl _) _).trans (hb.mono (by simp))
      clear hb
      go_wp2_with fail
      go_ret
      exact ⟨rfl, HB.out⟩
  · have e1 : (e.op == 0) = false := by simp [h1]
    rw [decide_eq_false h1, Bool.false_and] at h
    subst h
    clear h1
    go_enter Tryz.func80, Tryz.ntmps80
    go_wp2_with fail
    go_ret
    exact ⟨rfl, (Below.refl _ _).alloc (Nat.le_refl _) _⟩
set_option maxRecDepth 100000 in
set_option maxHeartbeats 400000 in
theorem amZero_is (a : TAm) (A : Option Addr) (c : Nat) (b : Bool) (w : World) (h : zeroAm a = b) : Calls Tryz.prog 81 #[amV a A c] w fun r w' => r = .returned (.bool b) ∧ Below w.heap.size w w' := by
  unfold amV
  rw [← h]
  clear h
  unfold zeroAm
  by_cases h1 : a.rel.size = 0
  · obtain ⟨hz1, hz⟩ := txt0 h1
    by_cases h2 : a.args.length = 0
    · have e2 := beq0 h2
      have H : Hid ((decide (a.rel.size = 0) && decide (a.args.length = 0)) = true) := by show _ = _; simp [h1, h2]
      clear h1 h2
      go_enter Tryz.func81, Tryz.ntmps81
      go_wp2_with fail
      go_ret
      exact ⟨ret_bool H.out.symm, (Below.refl _ _).alloc (Nat.le_refl _) _⟩
    · have e2 := beq0_not h2
      have H : Hid ((decide (a.rel.size = 0) && decide (a.args.length = 0)) = false) := by show _ = _; simp [h1, h2]
      clear h1 h2
      go_enter Tryz.func81, Tryz.ntmps81
      go_wp2_with fail
      go_ret
      exact ⟨ret_bool H.out.symm, (Below.refl _ _).alloc (Nat.le_refl _) _⟩
  · obtain ⟨hz1, hz⟩ := empty_not h1
    have hz2 : ¬ a.rel.toList = [] := fun e => by rw [e] at hz; cases hz
    have H : Hid ((decide (a.rel.size = 0) && decide (a.args.length = 0)) = false) := by show _ = _; simp [h1]
    clear h1
    go_enter Tryz.func81, Tryz.ntmps81
    go_wp2_with fail
    go_ret
    exact ⟨ret_bool H.out.symm, (Below.refl _ _).alloc (Nat.le_refl _) _⟩
end Go.Proofs.YtikohamfnnlhcaaGreatDoor
