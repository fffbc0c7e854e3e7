/- What is right: aggregates, rules, programs. Conditions: texts of at most 2^47 bytes; lex's two tables and strconv's variables as they are laid. -/
import Derived.Test.YtikohamfnnlhcaaGreatDoorPcTermJ
import Derived.Test.YtikohamfnnlhcaaGreatDoorPcTermW
import Derived.ChangeKeysEq
set_option linter.unusedVariables false
set_option linter.unusedSimpArgs false
namespace Go.Proofs.YtikohamfnnlhcaaGreatDoor
open Go.RowKit Go.Deep Go.Shelf


/-- the cells of a literal as mere values, and what is answered to it. -/
def LtJ (w : World) (A : Option Addr) (l : List TLt) (j : Nat) (h : j < l.length) : Prop :=
  ∃ (b o : Nat) (k0 k3 k4 k6 k7 k10 k12 k13 k16 : Int) (s1 s5 s8 s11 s14 : ByteArray) (A2 A9 A15 : Option Addr) (n2 m2 n9 m9 n15 m15 : Nat), A = some ⟨b, o, none⟩ ∧ b < w.heap.size ∧ (w.cell? ⟨b, o + j * 17, none⟩ = some (.int .i64 k0) ∧ w.cell? ⟨b, o + j * 17 + 1, none⟩ = some (.string s1) ∧ w.cell? ⟨b, o + j * 17 + 2, none⟩ = some (.slice A2 n2 m2) ∧ w.cell? ⟨b, o + j * 17 + 3, none⟩ = some (.int .i64 k3) ∧ w.cell? ⟨b, o + j * 17 + 4, none⟩ = some (.int .i64 k4) ∧ w.cell? ⟨b, o + j * 17 + 5, none⟩ = some (.string s5) ∧ w.cell? ⟨b, o + j * 17 + 6, none⟩ = some (.int .i64 k6) ∧ w.cell? ⟨b, o + j * 17 + 7, none⟩ = some (.int .i64 k7) ∧ w.cell? ⟨b, o + j * 17 + 8, none⟩ = some (.string s8) ∧ w.cell? ⟨b, o + j * 17 + 9, none⟩ = some (.slice A9 n9 m9) ∧ w.cell? ⟨b, o + j * 17 + 10, none⟩ = some (.int .i64 k10) ∧ w.cell? ⟨b, o + j * 17 + 11, none⟩ = some (.string s11) ∧ w.cell? ⟨b, o + j * 17 + 12, none⟩ = some (.int .i64 k12) ∧ w.cell? ⟨b, o + j * 17 + 13, none⟩ = some (.int .i64 k13) ∧ w.cell? ⟨b, o + j * 17 + 14, none⟩ = some (.string s14) ∧ w.cell? ⟨b, o + j * 17 + 15, none⟩ = some (.slice A15 n15 m15) ∧ w.cell? ⟨b, o + j * 17 + 16, none⟩ = some (.int .i64 k16)) ∧
    ∀ W, Below w.heap.size w W → Calls Tryz.prog 50 #[.agg #[.int .i64 k0, .string s1, .slice A2 n2 m2, .int .i64 k3, .int .i64 k4, .string s5, .int .i64 k6, .int .i64 k7, .string s8, .slice A9 n9 m9, .int .i64 k10, .string s11, .int .i64 k12, .int .i64 k13, .string s14, .slice A15 n15 m15, .int .i64 k16]] W fun r w' => r = .returned (.bool (rightLt l[j])) ∧ Below W.heap.size W w'
theorem lt_each {w : World} {A : Option Addr} {l : List TLt} (hV : Rg 17 LtC w A l) (hL : Lays w) {j : Nat} (h : j < l.length) : LtJ w A l j h := by
  obtain ⟨b, o, hA, hbw, hc⟩ := hV.at_ h
  obtain ⟨AA, ac, L, lc, R, rc, ⟨c0, c1, c2, c3, ⟨c4, c5, c6, c7, c8, c9⟩, ⟨d0, d1, d2, d3, d4, d5⟩, c16⟩, hy⟩ := hc.open_
  exact ⟨b, o, _, _, _, _, _, _, _, _, _, _, _, _, _, _, _, _, _, _, _, _, _, _, _, hA, hbw, ⟨c0, c1, c2, c3, c4, c5, c6, c7, c8, c9, d0, d1, d2, d3, d4, d5, c16⟩, fun W hb => RightLiteral_is l[j] AA ac L lc R rc _ W rfl (hy.below hb) (hL.below hb)⟩
set_option maxRecDepth 100000 in
set_option maxHeartbeats 1000000 in
theorem everyLt_any (A : Option Addr) (c : Nat) (l : List TLt) (m : Int) (w : World) (hV : Rg 17 LtC w A l) (hL : Lays w) :
    Calls Tryz.prog 77 #[.slice A l.length c, .int .i64 m, .func (.func 50) #[] #[]] w fun r w' => r = .returned (.bool (decide ((l.length : Int) ≤ m) && l.all rightLt)) ∧ Below w.heap.size w w' := by
  have HV : Hid (∀ j (h : j < l.length), LtJ w A l j h) := fun j h => lt_each hV hL h
  have hlen := hV.1
  clear hV hL
  by_cases hm : (l.length : Int) ≤ m
  · have HM : Hid (decide ((l.length : Int) ≤ m) = true) := by show _ = _; simp [hm]
    go_enter Tryz.func77, Tryz.ntmps77
    go_wp2_with fail
    go_loopw [15] (fun i wr => ∃ j : Nat, j ≤ l.length ∧ i = .int .i64 j ∧ Hid (l.all rightLt = (l.drop j).all rightLt) ∧ Hid (Below w.heap.size w wr)) (fun i _ => l.length - (intOf i).toNat)
    case atStart => exact ⟨0, Nat.zero_le _, rfl, Lib.hid rfl, Lib.hid (Below.refl _ _)⟩
    case round =>
      obtain ⟨j, hj, rfl, HX, HB⟩ := hrel
      by_cases hlt : j < l.length
      · obtain ⟨b, o, k0, k3, k4, k6, k7, k10, k12, k13, k16, s1, s5, s8, s11, s14, A2, A9, A15, n2, m2, n9, m9, n15, m15, rfl, hbw, ⟨c0, c1, c2, c3, c4, c5, c6, c7, c8, c9, c10, c11, c12, c13, c14, c15, c16⟩, hcall⟩ := HV.out j hlt
        have HS : Hid ((l.drop j).all rightLt = (rightLt l[j] && (l.drop (j + 1)).all rightLt)) := by show _ = _; rw [List.drop_eq_getElem_cons hlt, List.all_cons]
        have HE := Lib.hid (HX.out.trans HS.out)
        have c0 := (HB.out.cell (p := ⟨b, o + j * 17, none⟩) hbw).trans c0
        have c1 := (HB.out.cell (p := ⟨b, o + j * 17 + 1, none⟩) hbw).trans c1
        have c2 := (HB.out.cell (p := ⟨b, o + j * 17 + 2, none⟩) hbw).trans c2
        have c3 := (HB.out.cell (p := ⟨b, o + j * 17 + 3, none⟩) hbw).trans c3
        have c4 := (HB.out.cell (p := ⟨b, o + j * 17 + 4, none⟩) hbw).trans c4
        have c5 := (HB.out.cell (p := ⟨b, o + j * 17 + 5, none⟩) hbw).trans c5
        have c6 := (HB.out.cell (p := ⟨b, o + j * 17 + 6, none⟩) hbw).trans c6
        have c7 := (HB.out.cell (p := ⟨b, o + j * 17 + 7, none⟩) hbw).trans c7
        have c8 := (HB.out.cell (p := ⟨b, o + j * 17 + 8, none⟩) hbw).trans c8
        have c9 := (HB.out.cell (p := ⟨b, o + j * 17 + 9, none⟩) hbw).trans c9
        have c10 := (HB.out.cell (p := ⟨b, o + j * 17 + 10, none⟩) hbw).trans c10
        have c11 := (HB.out.cell (p := ⟨b, o + j * 17 + 11, none⟩) hbw).trans c11
        have c12 := (HB.out.cell (p := ⟨b, o + j * 17 + 12, none⟩) hbw).trans c12
        have c13 := (HB.out.cell (p := ⟨b, o + j * 17 + 13, none⟩) hbw).trans c13
        have c14 := (HB.out.cell (p := ⟨b, o + j * 17 + 14, none⟩) hbw).trans c14
        have c15 := (HB.out.cell (p := ⟨b, o + j * 17 + 15, none⟩) hbw).trans c15
        have c16 := (HB.out.cell (p := ⟨b, o + j * 17 + 16, none⟩) hbw).trans c16
        have HCS : Hid (∀ (i : Nat) v, [.int .i64 k0, .string s1, .slice A2 n2 m2, .int .i64 k3, .int .i64 k4, .string s5, .int .i64 k6, .int .i64 k7, .string s8, .slice A9 n9 m9, .int .i64 k10, .string s11, .int .i64 k12, .int .i64 k13, .string s14, .slice A15 n15 m15, .int .i64 k16][i]? = some v → wr.cell? ⟨b, o + j * 17 + i, none⟩ = some v) := fun i v hv => by
          match i, hv with
          | 0, hv => cases hv; exact c0
          | 1, hv => cases hv; exact c1
          | 2, hv => cases hv; exact c2
          | 3, hv => cases hv; exact c3
          | 4, hv => cases hv; exact c4
          | 5, hv => cases hv; exact c5
          | 6, hv => cases hv; exact c6
          | 7, hv => cases hv; exact c7
          | 8, hv => cases hv; exact c8
          | 9, hv => cases hv; exact c9
          | 10, hv => cases hv; exact c10
          | 11, hv => cases hv; exact c11
          | 12, hv => cases hv; exact c12
          | 13, hv => cases hv; exact c13
          | 14, hv => cases hv; exact c14
          | 15, hv => cases hv; exact c15
          | 16, hv => cases hv; exact c16
          | n + 17, hv => simp at hv
        have HON : Hid ((#[.int .i64 k0, .string s1, .slice A2 n2 m2, .int .i64 k3, .int .i64 k4, .string s5, .int .i64 k6, .int .i64 k7, .string s8, .slice A9 n9 m9, .int .i64 k10, .string s11, .int .i64 k12, .int .i64 k13, .string s14, .slice A15 n15 m15, .int .i64 k16] : Array Value).all (·.oneCell') = true) := by show _ = _; simp [Value.oneCell']
        clear c0 c1 c2 c3 c4 c5 c6 c7 c8 c9 c10 c11 c12 c13 c14 c15 c16
        have C := Lib.hid (hcall _ (HB.out.alloc (o := .cells #[.int .i64 k0, .string s1, .slice A2 n2 m2, .int .i64 k3, .int .i64 k4, .string s5, .int .i64 k6, .int .i64 k7, .string s8, .slice A9 n9 m9, .int .i64 k10, .string s11, .int .i64 k12, .int .i64 k13, .string s14, .slice A15 n15 m15, .int .i64 k16] 63) HB.out.size))
        clear HX HS hcall HV
        generalize rightLt l[j] = q at HE C
        go_wp2_with (first
          | (refine wpList_load_at (o := ⟨some 18, _, _, _, _, _⟩) rfl 63 _ rfl b (o + j * 17) rfl [.int .i64 k0, .string s1, .slice A2 n2 m2, .int .i64 k3, .int .i64 k4, .string s5, .int .i64 k6, .int .i64 k7, .string s8, .slice A9 n9 m9, .int .i64 k10, .string s11, .int .i64 k12, .int .i64 k13, .string s14, .slice A15 n15 m15, .int .i64 k16] HCS.out _ Tryz.underlying63 rfl infoLit ?_)
          | (refine wpList_store_new (o := ⟨none, .store 63 _ _, _, _, _, _⟩) rfl 63 _ _ rfl #[.int .i64 k0, .string s1, .slice A2 n2 m2, .int .i64 k3, .int .i64 k4, .string s5, .int .i64 k6, .int .i64 k7, .string s8, .slice A9 n9 m9, .int .i64 k10, .string s11, .int .i64 k12, .int .i64 k13, .string s14, .slice A15 n15 m15, .int .i64 k16] rfl rfl 63 _ infoLit rfl HON.out ?_)
          | (refine wpList_load_row (o := ⟨some 20, _, _, _, _, _⟩) rfl 63 _ rfl wr.heap.size rfl 63 #[.int .i64 k0, .string s1, .slice A2 n2 m2, .int .i64 k3, .int .i64 k4, .string s5, .int .i64 k6, .int .i64 k7, .string s8, .slice A9 n9 m9, .int .i64 k10, .string s11, .int .i64 k12, .int .i64 k13, .string s14, .slice A15 n15 m15, .int .i64 k16] (0, 0) _ (heap_alloc_new _ _) Tryz.underlying63 rfl infoLit ?_))
        refine C.out.mono ?_
        rintro e w' ⟨rfl, hb⟩
        have HB' : Hid (Below w.heap.size w w') := (HB.out.alloc HB.out.size _).trans (hb.mono (by simp; have := HB.out.size; omega))
        clear hb C HB
        cases q with
        | false =>
          rw [Bool.false_and] at HE
          go_wp2_with fail
          go_ret
          exact ⟨by rw [HE.out]; simp, HB'.out⟩
        | true =>
          rw [Bool.true_and] at HE
          go_wp2_with fail
          go_roundw
          case rel => exact ⟨j + 1, by omega, by go_num, HE, HB'⟩
          case measure => simp [intOf]; omega
      · have HE : Hid ((l.drop j).all rightLt = true) := by show _ = _; rw [List.drop_eq_nil_of_le (by omega)]; rfl
        have HE := Lib.hid (HX.out.trans HE.out)
        clear HX
        go_wp2_with fail
        go_ret
        exact ⟨by rw [HE.out, HM.out]; rfl, HB.out⟩
  · have HM : Hid (decide ((l.length : Int) ≤ m) = false) := by show _ = _; simp only [decide_eq_false_iff_not]; exact hm
    have hm' : m < (l.length : Int) := by omega
    clear hm
    go_enter Tryz.func77, Tryz.ntmps77
    go_wp2_with fail
    go_ret
    exact ⟨by rw [HM.out]; simp, Below.refl _ _⟩
theorem cells3 : Tryz.prog.cellsOf 3 = 1 := by kernel_rfl
set_option maxRecDepth 100000 in
/-- '==' on pairs of numbers. -/
theorem eqArr (a c a' c' : Int) (b : Bool) (h : decide (a = a' ∧ c = c') = b) (w : World) : (binOp .eql 170 (.agg #[.int .i64 a, .int .i64 c]) (.agg #[.int .i64 a', .int .i64 c'])).run Tryz.prog w = .ok (.bool b) w := by
  have u3 := Tryz.underlying3
  have a3 := Tryz.isAgg3
  have z3 := Tryz.sizeOf3
  have hi0 : (Tryz.prog.info? 3).isSome = true := by kernel_rfl
  obtain ⟨i, hi⟩ := Option.isSome_iff_exists.1 hi0
  rw [← h]
  clear h
  rw [run_eql_struct, show (10000 : Nat) = 9999 + 1 from rfl, run_equalIn_array w 9999 _ _ Tryz.underlying170 hi, cells3]
  simp only [List.range, List.range.loop, Op.eqItems]
  go_simp
  clear u3 a3 z3 hi0 hi
  by_cases h1 : a = a'
  · by_cases h2 : c = c'
    · simp [h1, h2]
    · simp [h1, h2]
  · simp [h1]
set_option maxRecDepth 100000 in
theorem aggregate_any (v0 v1 v4 v5 : Value) (a c : Int) (w : World) : Calls Tryz.prog 97 #[.agg #[v0, v1, .int .i64 a, .int .i64 c, v4, v5]] w fun e w' => e = .returned (.agg #[.int .i64 a, .int .i64 c]) ∧ Below w.heap.size w w' := by
  go_enter Tryz.func97, Tryz.ntmps97
  go_wp2
  exact bodyPost_ret (v := .agg #[.int .i64 a, .int .i64 c]) (by simp [results, Tryz.results97, go_sem]) rfl ⟨rfl, by first | exact ((((Below.refl _ _).alloc (Nat.le_refl _) _).alloc (by simp) _).setCell (by simp) _).setCell (by simp) _ | exact ((Below.refl _ _).alloc (Nat.le_refl _) _).alloc (by simp) _⟩
end Go.Proofs.YtikohamfnnlhcaaGreatDoor
