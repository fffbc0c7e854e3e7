/- The document's literals, rules and programs: which rules are right. Conditions: texts of at most 2^47 bytes. The document's programs: which are formed. Conditions: texts of at most 2^47 bytes. -/
import Derived.Test.YtikohamfnnlhcaaGreatDoorPcTermRr
import Derived.Test.YtikohamfnnlhcaaGreatDoorPcTermCl
import Derived.Test.YtikohamfnnlhcaaGreatDoorPcTermW
set_option linter.unusedVariables false
set_option linter.unusedSimpArgs false
namespace Go.Proofs.YtikohamfnnlhcaaGreatDoor
open Go.RowKit Go.Deep Go.Shelf

theorem ltF_cells {W : World} {b o : Nat} {x : TLt} {A : Option Addr} {c : Nat} {L : Option Addr} {d : Nat} {R : Option Addr} {f : Nat} (hF : LtF W b o x A c L d R f) : ∀ (i : Nat) v, (ltL x A c L d R f)[i]? = some v → W.cell? ⟨b, o + i, none⟩ = some v := fun i v hv => by
  obtain ⟨e0, e1, e2, e3, ⟨e4, e5, e6, e7, e8, e9⟩, ⟨e10, e11, e12, e13, e14, e15⟩, e16⟩ := hF
  match i, hv with
  | 0, hv => cases hv; exact e0
  | 1, hv => cases hv; exact e1
  | 2, hv => cases hv; exact e2
  | 3, hv => cases hv; exact e3
  | 4, hv => cases hv; exact e4
  | 5, hv => cases hv; exact e5
  | 6, hv => cases hv; exact e6
  | 7, hv => cases hv; exact e7
  | 8, hv => cases hv; exact e8
  | 9, hv => cases hv; exact e9
  | 10, hv => cases hv; exact e10
  | 11, hv => cases hv; exact e11
  | 12, hv => cases hv; exact e12
  | 13, hv => cases hv; exact e13
  | 14, hv => cases hv; exact e14
  | 15, hv => cases hv; exact e15
  | 16, hv => cases hv; exact e16
  | n + 17, hv => simp [ltL] at hv
set_option maxRecDepth 100000 in
set_option maxHeartbeats 4000000 in
theorem refRu_is (r : TRu) (A : Option Addr) (c : Nat) (B : Option Addr) (d : Nat) (b : Bool) (w : World) (h : rightRu r = b) (hV : RuV w r A B) :
    Calls Tryz.prog 22 #[ruV r A c B d] w fun e w' => e = .returned (.bool b) ∧ Below w.heap.size w w' := by
  unfold ruV
  unfold rightRu at h
  have hO : Own (w.alloc (.cells #[.string r.head.rel, .slice A r.head.args.length c, .int .i64 r.agg, .int .i64 r.col, .slice B r.body.length d, .int .i64 r.pos] 70)) w.heap.size 70 [.string r.head.rel, .slice A r.head.args.length c, .int .i64 r.agg, .int .i64 r.col, .slice B r.body.length d, .int .i64 r.pos] := heap_alloc_new _ _
  have HO0 := Lib.hid hO
  have HB0 : Hid (Below w.heap.size w (w.alloc (.cells #[.string r.head.rel, .slice A r.head.args.length c, .int .i64 r.agg, .int .i64 r.col, .slice B r.body.length d, .int .i64 r.pos] 70))) := (Below.refl w.heap.size w).alloc (Nat.le_refl _) _
  have CA : Hid (∀ W, Below w.heap.size w W → Calls Tryz.prog 55 #[amV r.head A c] W fun e w' => e = .returned (.bool (rightAm r.head)) ∧ Below W.heap.size W w') := fun W hb => refAm_is r.head A c _ W rfl (hV.am.below hb)
  have HVA := Lib.hid hV.am.row
  have HVB := Lib.hid hV.row
  have hbl := hV.row.1
  have hal := hV.am.row.1
  unfold amV at CA
  clear hV hO
  generalize rightAm r.head = vA at h CA
  cases vA with
  | false =>
    rw [Bool.false_and] at h
    subst h
    go_enter Tryz.func22, Tryz.ntmps22
    go_wp2_with fail
    refine (CA.out _ HB0.out).mono ?_
    rintro r w1 ⟨rfl, hb⟩
    have HB1 : Hid (Below w.heap.size w w1) := HB0.out.trans (hb.mono HB0.out.size)
    have HO1 := Lib.hid (HO0.out.below hb)
    clear hb
    go_wp2_with fail
    go_ret
    exact ⟨rfl, HB1.out⟩
  | true =>
    rw [Bool.true_and] at h
    by_cases h8 : r.body.length ≤ 8
    · have d8 : decide (8 < r.body.length) = false := by simp; omega
      have d8i : decide ((8 : Int) < (r.body.length : Int)) = false := by simp; omega
      rw [decide_eq_true h8, Bool.true_and] at h
      by_cases h0 : r.agg < 0
      · have d0 : decide (r.agg < 0) = true := by simpa using h0
        have hf : aggB r = false := by
          unfold aggB
          rw [if_neg (fun e => by omega), decide_eq_false (by omega), Bool.false_and]
        rw [hf, Bool.false_and] at h
        subst h
        clear hf h8 h0
        go_enter Tryz.func22, Tryz.ntmps22
        go_wp2_with fail
        refine (CA.out _ HB0.out).mono ?_
        rintro r w1 ⟨rfl, hb⟩
        have HB1 : Hid (Below w.heap.size w w1) := HB0.out.trans (hb.mono HB0.out.size)
        have HO1 := Lib.hid (HO0.out.below hb)
        clear hb
        have c1 := HO1.out.cell 1
        have c2 := HO1.out.cell 2
        have c3 := HO1.out.cell 3
        have c4 := HO1.out.cell 4
        simp only [List.getElem?_cons_zero, List.getElem?_cons_succ] at c1 c2 c3 c4
        go_wp2_with fail
        go_ret
        exact ⟨rfl, HB1.out⟩
      · have d0 : decide (r.agg < 0) = false := by simp; omega
        by_cases h4 : r.agg ≤ 4
        · have d4 : decide (4 < r.agg) = false := by simp; omega
          by_cases hz : r.agg = 0
          · have ez : (r.agg == 0) = true := by simp [hz]
            have dz : decide (0 < r.agg) = false := by simp; omega
            by_cases hc : r.col = 0
            · have ec : (r.col != 0) = false := by simp [hc]
              have ec2 : (r.col == 0) = true := by simp [hc]
              have hf : aggB r = true := by
                unfold aggB
                rw [if_pos ⟨hz, hc⟩]
              rw [hf, Bool.true_and] at h
              have H := Lib.hid h
              clear hf h8 h0 h4 h hz hc
              go_enter Tryz.func22, Tryz.ntmps22
              go_wp2_with fail
              refine (CA.out _ HB0.out).mono ?_
              rintro r w1 ⟨rfl, hb⟩
              have HB1 : Hid (Below w.heap.size w w1) := HB0.out.trans (hb.mono HB0.out.size)
              have HO1 := Lib.hid (HO0.out.below hb)
              clear hb
              have c1 := HO1.out.cell 1
              have c2 := HO1.out.cell 2
              have c3 := HO1.out.cell 3
              have c4 := HO1.out.cell 4
              simp only [List.getElem?_cons_zero, List.getElem?_cons_succ] at c1 c2 c3 c4
              go_wp2_with fail
              go_loopw [3] (fun i wr => ∃ j : Nat, j ≤ r.body.length ∧ i = .int .i64 j ∧ Hid (r.body.all rightLt = (r.body.drop j).all rightLt) ∧ Hid (Below w1.heap.size w1 wr)) (fun i _ => r.body.length - (intOf i).toNat)
              case atStart => exact ⟨0, Nat.zero_le _, rfl, Lib.hid rfl, Lib.hid (Below.refl _ _)⟩
              case round =>
                obtain ⟨j, hj, rfl, HX, HB⟩ := hrel
                have HOr := HO1.out.below HB.out
                have c4 := HOr.cell 4
                simp only [List.getElem?_cons_zero, List.getElem?_cons_succ] at c4
                have cq := HOr.lt
                clear HOr
                by_cases hlt : j < r.body.length
                · obtain ⟨g, o, rfl, hgw, hc⟩ := HVB.out.at_ hlt
                  obtain ⟨A1, c1', L1, d1', R1, f1, hF, hLV⟩ := (hc.pers (Pers.of (HB1.out.trans (HB.out.mono HB1.out.size)))).open_
                  have HS : Hid ((r.body.drop j).all rightLt = (rightLt r.body[j] && (r.body.drop (j + 1)).all rightLt)) := by show _ = _; rw [List.drop_eq_getElem_cons hlt, List.all_cons]
                  have HE := Lib.hid (HX.out.trans HS.out)
                  clear HS HX hc
                  generalize r.body[j] = y at hF hLV HE
                  obtain ⟨cs, hcs⟩ : ∃ cs, cs = ltL y A1 c1' L1 d1' R1 f1 := ⟨_, rfl⟩
                  have HCS : Hid (∀ (i : Nat) v, cs[i]? = some v → wr.cell? ⟨g, o + j * 17 + i, none⟩ = some v) := fun i v hv => ltF_cells hF i v (by rw [← hcs]; exact hv)
                  have HI1 : Hid ((Tryz.prog.info? 77).map (·.size) = some cs.length) := by show _ = _; rw [hcs]; exact infoRlt
                  have C : Hid (Calls Tryz.prog 25 #[.agg cs.toArray] wr fun r w' => r = .returned (.bool (rightLt y)) ∧ Below wr.heap.size wr w') := by
                    rw [hcs]
                    exact refLt_is y A1 c1' L1 d1' R1 f1 _ wr rfl hLV
                  clear hF hLV hcs
                  cases hb : rightLt y with
                  | false =>
                    rw [hb] at C HE
                    rw [Bool.false_and] at HE
                    clear hb
                    go_wp2_with (refine wpList_load_at (o := ⟨some 74, _, _, _, _, _⟩) rfl 77 _ rfl g (o + j * 17) rfl cs HCS.out _ Tryz.underlying77 rfl HI1.out ?_)
                    refine C.out.mono ?_
                    rintro e w' ⟨rfl, hb⟩
                    have HBF := Lib.hid (HB1.out.trans ((HB.out.trans (hb.mono HB.out.size)).mono HB1.out.size))
                    clear hb
                    go_wp2_with fail
                    go_ret
                    exact ⟨by rw [← H.out, HE.out]; rfl, HBF.out⟩
                  | true =>
                    rw [hb] at C HE
                    rw [Bool.true_and] at HE
                    clear hb
                    go_wp2_with (refine wpList_load_at (o := ⟨some 74, _, _, _, _, _⟩) rfl 77 _ rfl g (o + j * 17) rfl cs HCS.out _ Tryz.underlying77 rfl HI1.out ?_)
                    refine C.out.mono ?_
                    rintro e w' ⟨rfl, hb⟩
                    have HB' : Hid (Below w1.heap.size w1 w') := HB.out.trans (hb.mono HB.out.size)
                    clear hb
                    go_wp2_with fail
                    go_roundw
                    case rel => exact ⟨j + 1, by omega, by go_num, HE, HB'⟩
                    case measure => simp [intOf]; omega
                · have HE : Hid (b = true) := by show _ = _; rw [← H.out, HX.out, List.drop_eq_nil_of_le (by omega)]; rfl
                  have HBF := Lib.hid (HB1.out.trans (HB.out.mono HB1.out.size))
                  clear HX
                  go_wp2_with fail
                  go_ret
                  exact ⟨by rw [HE.out]; rfl, HBF.out⟩
            · have ec : (r.col != 0) = true := by simp [hc]
              have ec2 : (r.col == 0) = false := by simp [hc]
              have hf : aggB r = false := by
                unfold aggB
                rw [if_neg (fun e => hc e.2), decide_eq_false (by omega), Bool.false_and]
              rw [hf, Bool.false_and] at h
              subst h
              clear hf h8 h0 h4 hz hc
              go_enter Tryz.func22, Tryz.ntmps22
              go_wp2_with fail
              refine (CA.out _ HB0.out).mono ?_
              rintro r w1 ⟨rfl, hb⟩
              have HB1 : Hid (Below w.heap.size w w1) := HB0.out.trans (hb.mono HB0.out.size)
              have HO1 := Lib.hid (HO0.out.below hb)
              clear hb
              have c1 := HO1.out.cell 1
              have c2 := HO1.out.cell 2
              have c3 := HO1.out.cell 3
              have c4 := HO1.out.cell 4
              simp only [List.getElem?_cons_zero, List.getElem?_cons_succ] at c1 c2 c3 c4
              go_wp2_with fail
              go_ret
              exact ⟨rfl, HB1.out⟩
          · have ez : (r.agg == 0) = false := by simp [hz]
            have dz : decide (0 < r.agg) = true := by simp; omega
            have hpos : 1 ≤ r.agg ∧ r.agg ≤ 4 := ⟨by omega, h4⟩
            have hag : aggB r = (match r.head.args[r.col.toNat]? with | some t => decide (0 ≤ r.col) && decide (t.v.size ≠ 0) | none => false) := by
              unfold aggB
              rw [if_neg (fun e => hz e.1), decide_eq_true hpos, Bool.true_and]
              rfl
            clear hz h4 h0 hpos
            by_cases h5 : r.col < 0
            · have d5 : decide (r.col < 0) = true := by simpa using h5
              have hf : aggB r = false := by
                rw [hag]
                split
                · rw [decide_eq_false (by omega), Bool.false_and]
                · rfl
              rw [hf, Bool.false_and] at h
              subst h
              clear hf hag h8 h5
              go_enter Tryz.func22, Tryz.ntmps22
              go_wp2_with fail
              refine (CA.out _ HB0.out).mono ?_
              rintro r w1 ⟨rfl, hb⟩
              have HB1 : Hid (Below w.heap.size w w1) := HB0.out.trans (hb.mono HB0.out.size)
              have HO1 := Lib.hid (HO0.out.below hb)
              clear hb
              have c1 := HO1.out.cell 1
              have c2 := HO1.out.cell 2
              have c3 := HO1.out.cell 3
              have c4 := HO1.out.cell 4
              simp only [List.getElem?_cons_zero, List.getElem?_cons_succ] at c1 c2 c3 c4
              go_wp2_with fail
              go_ret
              exact ⟨rfl, HB1.out⟩
            · obtain ⟨k, hk⟩ : ∃ k : Nat, r.col = (k : Int) := ⟨r.col.toNat, by omega⟩
              rw [hk] at hag HO0 HB0 ⊢
              have hkn : ((k : Int)).toNat = k := rfl
              rw [hkn] at hag
              clear h5 hk hkn
              by_cases h6 : k < r.head.args.length
              · have d6 : decide (r.head.args.length ≤ k) = false := by simp; omega
                rw [List.getElem?_eq_getElem h6] at hag
                simp only at hag
                rw [decide_eq_true (by omega : (0 : Int) ≤ (k : Int)), Bool.true_and] at hag
                obtain ⟨g0, o0, rfl, hgw0, t0, _, _, _, _⟩ := HVA.out.at_ h6
                generalize r.head.args[k] = y0 at *
                by_cases h7 : y0.v.size = 0
                · have e7 := beq0 h7
                  rw [hag, decide_eq_false (by simp [h7]), Bool.false_and] at h
                  subst h
                  have T0 := Lib.hid t0
                  clear hag h8 h7 t0
                  go_enter Tryz.func22, Tryz.ntmps22
                  go_wp2_with fail
                  refine (CA.out _ HB0.out).mono ?_
                  rintro r w1 ⟨rfl, hb⟩
                  have HB1 : Hid (Below w.heap.size w w1) := HB0.out.trans (hb.mono HB0.out.size)
                  have HO1 := Lib.hid (HO0.out.below hb)
                  clear hb
                  have c1 := HO1.out.cell 1
                  have c2 := HO1.out.cell 2
                  have c3 := HO1.out.cell 3
                  have c4 := HO1.out.cell 4
                  simp only [List.getElem?_cons_zero, List.getElem?_cons_succ] at c1 c2 c3 c4
                  have t0 := (HB1.out.cell (p := ⟨g0, _, none⟩) hgw0).trans T0.out
                  go_wp2_with fail
                  go_ret
                  exact ⟨rfl, HB1.out⟩
                · have e7 := beq0_not h7
                  rw [hag, decide_eq_true (by simpa using h7), Bool.true_and] at h
                  have H := Lib.hid h
                  have T0 := Lib.hid t0
                  clear hag h8 h7 h t0
                  go_enter Tryz.func22, Tryz.ntmps22
                  go_wp2_with fail
                  refine (CA.out _ HB0.out).mono ?_
                  rintro r w1 ⟨rfl, hb⟩
                  have HB1 : Hid (Below w.heap.size w w1) := HB0.out.trans (hb.mono HB0.out.size)
                  have HO1 := Lib.hid (HO0.out.below hb)
                  clear hb
                  have c1 := HO1.out.cell 1
                  have c2 := HO1.out.cell 2
                  have c3 := HO1.out.cell 3
                  have c4 := HO1.out.cell 4
                  simp only [List.getElem?_cons_zero, List.getElem?_cons_succ] at c1 c2 c3 c4
                  have t0 := (HB1.out.cell (p := ⟨g0, _, none⟩) hgw0).trans T0.out
                  go_wp2_with fail
                  clear t0
                  go_loopw [3] (fun i wr => ∃ j : Nat, j ≤ r.body.length ∧ i = .int .i64 j ∧ Hid (r.body.all rightLt = (r.body.drop j).all rightLt) ∧ Hid (Below w1.heap.size w1 wr)) (fun i _ => r.body.length - (intOf i).toNat)
                  case atStart => exact ⟨0, Nat.zero_le _, rfl, Lib.hid rfl, Lib.hid (Below.refl _ _)⟩
                  case round =>
                    obtain ⟨j, hj, rfl, HX, HB⟩ := hrel
                    have HOr := HO1.out.below HB.out
                    have c4 := HOr.cell 4
                    simp only [List.getElem?_cons_zero, List.getElem?_cons_succ] at c4
                    have cq := HOr.lt
                    clear HOr
                    by_cases hlt : j < r.body.length
                    · obtain ⟨g, o, rfl, hgw, hc⟩ := HVB.out.at_ hlt
                      obtain ⟨A1, c1', L1, d1', R1, f1, hF, hLV⟩ := (hc.pers (Pers.of (HB1.out.trans (HB.out.mono HB1.out.size)))).open_
                      have HS : Hid ((r.body.drop j).all rightLt = (rightLt r.body[j] && (r.body.drop (j + 1)).all rightLt)) := by show _ = _; rw [List.drop_eq_getElem_cons hlt, List.all_cons]
                      have HE := Lib.hid (HX.out.trans HS.out)
                      clear HS HX hc
                      generalize r.body[j] = y at hF hLV HE
                      obtain ⟨cs, hcs⟩ : ∃ cs, cs = ltL y A1 c1' L1 d1' R1 f1 := ⟨_, rfl⟩
                      have HCS : Hid (∀ (i : Nat) v, cs[i]? = some v → wr.cell? ⟨g, o + j * 17 + i, none⟩ = some v) := fun i v hv => ltF_cells hF i v (by rw [← hcs]; exact hv)
                      have HI1 : Hid ((Tryz.prog.info? 77).map (·.size) = some cs.length) := by show _ = _; rw [hcs]; exact infoRlt
                      have C : Hid (Calls Tryz.prog 25 #[.agg cs.toArray] wr fun r w' => r = .returned (.bool (rightLt y)) ∧ Below wr.heap.size wr w') := by
                        rw [hcs]
                        exact refLt_is y A1 c1' L1 d1' R1 f1 _ wr rfl hLV
                      clear hF hLV hcs
                      cases hb : rightLt y with
                      | false =>
                        rw [hb] at C HE
                        rw [Bool.false_and] at HE
                        clear hb
                        go_wp2_with (refine wpList_load_at (o := ⟨some 74, _, _, _, _, _⟩) rfl 77 _ rfl g (o + j * 17) rfl cs HCS.out _ Tryz.underlying77 rfl HI1.out ?_)
                        refine C.out.mono ?_
                        rintro e w' ⟨rfl, hb⟩
                        have HBF := Lib.hid (HB1.out.trans ((HB.out.trans (hb.mono HB.out.size)).mono HB1.out.size))
                        clear hb
                        go_wp2_with fail
                        go_ret
                        exact ⟨by rw [← H.out, HE.out]; rfl, HBF.out⟩
                      | true =>
                        rw [hb] at C HE
                        rw [Bool.true_and] at HE
                        clear hb
                        go_wp2_with (refine wpList_load_at (o := ⟨some 74, _, _, _, _, _⟩) rfl 77 _ rfl g (o + j * 17) rfl cs HCS.out _ Tryz.underlying77 rfl HI1.out ?_)
                        refine C.out.mono ?_
                        rintro e w' ⟨rfl, hb⟩
                        have HB' : Hid (Below w1.heap.size w1 w') := HB.out.trans (hb.mono HB.out.size)
                        clear hb
                        go_wp2_with fail
                        go_roundw
                        case rel => exact ⟨j + 1, by omega, by go_num, HE, HB'⟩
                        case measure => simp [intOf]; omega
                    · have HE : Hid (b = true) := by show _ = _; rw [← H.out, HX.out, List.drop_eq_nil_of_le (by omega)]; rfl
                      have HBF := Lib.hid (HB1.out.trans (HB.out.mono HB1.out.size))
                      clear HX
                      go_wp2_with fail
                      go_ret
                      exact ⟨by rw [HE.out]; rfl, HBF.out⟩
              · have d6 : decide (r.head.args.length ≤ k) = true := by simp; omega
                rw [List.getElem?_eq_none (by omega)] at hag
                simp only at hag
                rw [hag, Bool.false_and] at h
                subst h
                clear hag h8
                go_enter Tryz.func22, Tryz.ntmps22
                go_wp2_with fail
                refine (CA.out _ HB0.out).mono ?_
                rintro r w1 ⟨rfl, hb⟩
                have HB1 : Hid (Below w.heap.size w w1) := HB0.out.trans (hb.mono HB0.out.size)
                have HO1 := Lib.hid (HO0.out.below hb)
                clear hb
                have c1 := HO1.out.cell 1
                have c2 := HO1.out.cell 2
                have c3 := HO1.out.cell 3
                have c4 := HO1.out.cell 4
                simp only [List.getElem?_cons_zero, List.getElem?_cons_succ] at c1 c2 c3 c4
                go_wp2_with fail
                go_ret
                exact ⟨rfl, HB1.out⟩
        · have d4 : decide (4 < r.agg) = true := by simp; omega
          have hf : aggB r = false := by
            unfold aggB
            rw [if_neg (fun e => by omega), decide_eq_false (by omega), Bool.false_and]
          rw [hf, Bool.false_and] at h
          subst h
          clear hf h8 h0 h4
          go_enter Tryz.func22, Tryz.ntmps22
          go_wp2_with fail
          refine (CA.out _ HB0.out).mono ?_
          rintro r w1 ⟨rfl, hb⟩
          have HB1 : Hid (Below w.heap.size w w1) := HB0.out.trans (hb.mono HB0.out.size)
          have HO1 := Lib.hid (HO0.out.below hb)
          clear hb
          have c1 := HO1.out.cell 1
          have c2 := HO1.out.cell 2
          have c3 := HO1.out.cell 3
          have c4 := HO1.out.cell 4
          simp only [List.getElem?_cons_zero, List.getElem?_cons_succ] at c1 c2 c3 c4
          go_wp2_with fail
          go_ret
          exact ⟨rfl, HB1.out⟩
    · have d8 : decide (8 < r.body.length) = true := by simp; omega
      have d8i : decide ((8 : Int) < (r.body.length : Int)) = true := by simp; omega
      rw [decide_eq_false h8, Bool.false_and, Bool.and_false] at h
      subst h
      clear h8
      go_enter Tryz.func22, Tryz.ntmps22
      go_wp2_with fail
      refine (CA.out _ HB0.out).mono ?_
      rintro r w1 ⟨rfl, hb⟩
      have HB1 : Hid (Below w.heap.size w w1) := HB0.out.trans (hb.mono HB0.out.size)
      have HO1 := Lib.hid (HO0.out.below hb)
      clear hb
      have c1 := HO1.out.cell 1
      have c2 := HO1.out.cell 2
      have c3 := HO1.out.cell 3
      have c4 := HO1.out.cell 4
      simp only [List.getElem?_cons_zero, List.getElem?_cons_succ] at c1 c2 c3 c4
      go_wp2_with fail
      go_ret
      exact ⟨rfl, HB1.out⟩
end Go.Proofs.YtikohamfnnlhcaaGreatDoor

set_option linter.unusedVariables false
set_option linter.unusedSimpArgs false
namespace Go.Proofs.YtikohamfnnlhcaaGreatDoor
open Go.RowKit Go.Deep Go.Shelf

set_option maxRecDepth 100000 in
set_option maxHeartbeats 4000000 in
theorem refPg_is (p : TPg) (A : Option Addr) (c : Nat) (B : Option Addr) (d : Nat) (w : World) (hV : PgV w p A B) :
    Calls Tryz.prog 9 #[pgV p A c B d] w fun e w' => e = .returned (.bool (formedB p)) ∧ Below w.heap.size w w' := by
  unfold pgV
  have H : Hid (formedB p = ((decide (p.decls.length ≤ 32) && p.decls.all rightDe) && (decide (p.rules.length ≤ 64) && p.rules.all rightRu))) := rfl
  have hO : Own (w.alloc (.cells #[.slice A p.decls.length c, .slice B p.rules.length d] 31)) w.heap.size 31 [.slice A p.decls.length c, .slice B p.rules.length d] := heap_alloc_new _ _
  have HO := Lib.hid hO
  have HB0 : Hid (Below w.heap.size w (w.alloc (.cells #[.slice A p.decls.length c, .slice B p.rules.length d] 31))) := (Below.refl w.heap.size w).alloc (Nat.le_refl _) _
  have HVD := Lib.hid hV.decls
  have HVR := Lib.hid hV.rules
  have hdl := hV.decls.1
  have hrl := hV.rules.1
  have hb0 := HB0.out
  clear hV hO
  by_cases h32 : p.decls.length ≤ 32
  · have e32 : decide (32 < p.decls.length) = false := by simp; omega
    have e32i : decide ((32 : Int) < (p.decls.length : Int)) = false := by simp; omega
    by_cases h64 : p.rules.length ≤ 64
    · have e64 : decide (64 < p.rules.length) = false := by simp; omega
      have e64i : decide ((64 : Int) < (p.rules.length : Int)) = false := by simp; omega
      have H2 : Hid (formedB p = (p.decls.all rightDe && p.rules.all rightRu)) := by show _ = _; rw [H.out, decide_eq_true h32, decide_eq_true h64, Bool.true_and, Bool.true_and]
      clear H h32 h64 hb0
      go_enter Tryz.func9, Tryz.ntmps9
      go_wp2_with fail
      generalize hW0 : w.alloc (.cells #[.slice A p.decls.length c, .slice B p.rules.length d] 31) = W0 at HO HB0 ⊢
      obtain ⟨b1, hb1⟩ : ∃ b, b = w.heap.size := ⟨_, rfl⟩
      rw [← hb1] at HO
      rw [show (Value.pointer (some ⟨w.heap.size, 0, none⟩)) = .pointer (some ⟨b1, 0, none⟩) by rw [hb1]]
      clear hW0 hb1 e32 e32i e64 e64i
      go_loopw [3] (fun i wr => ∃ j : Nat, j ≤ p.decls.length ∧ i = .int .i64 j ∧ Hid (p.decls.all rightDe = (p.decls.drop j).all rightDe) ∧ Hid (Below W0.heap.size W0 wr)) (fun i _ => p.decls.length - (intOf i).toNat)
      case atStart => exact ⟨0, Nat.zero_le _, rfl, Lib.hid rfl, Lib.hid (Below.refl _ _)⟩
      case round =>
        obtain ⟨j, hj, rfl, HX, HB⟩ := hrel
        have HOr := HO.out.below HB.out
        have c0 := HOr.cell 0
        have c1 := HOr.cell 1
        simp only [List.getElem?_cons_zero, List.getElem?_cons_succ] at c0 c1
        have cq := HOr.lt
        clear HOr
        by_cases hlt : j < p.decls.length
        · obtain ⟨g, o, hA, hgw, d0, ⟨A1, c1, d1, hkr⟩, d2, hok⟩ := HVD.out.at_ hlt
          have d0 := ((HB0.out.trans (HB.out.mono HB0.out.size)).cell (p := ⟨g, _, none⟩) hgw).trans d0
          have d1 := ((HB0.out.trans (HB.out.mono HB0.out.size)).cell (p := ⟨g, _, none⟩) hgw).trans d1
          have d2 := ((HB0.out.trans (HB.out.mono HB0.out.size)).cell (p := ⟨g, _, none⟩) hgw).trans d2
          have HS : Hid ((p.decls.drop j).all rightDe = (rightDe p.decls[j] && (p.decls.drop (j + 1)).all rightDe)) := by show _ = _; rw [List.drop_eq_getElem_cons hlt, List.all_cons]
          have HE := Lib.hid (HX.out.trans HS.out)
          have HDe : Hid (rightDe p.decls[j] = (soleB 2 p.decls[j].rel && (decide (p.decls[j].kinds.length ≤ 6) && p.decls[j].kinds.all kindB))) := rfl
          have HKR := Lib.hid (hkr.int (Pers.of (HB0.out.trans (HB.out.mono HB0.out.size))))
          have hkl := hkr.1
          have C : Hid (∀ W, Calls Tryz.prog 35 #[.string p.decls[j].rel] W fun e w' => e = .returned (.bool (soleB 2 p.decls[j].rel)) ∧ Below W.heap.size W w') := fun W => refNamed_is p.decls[j].rel _ W rfl hok
          clear HS HX hok hkr
          subst hA
          generalize p.decls[j] = y at *
          have HBx : Hid (Own (wr.alloc (.cells #[.string y.rel, .slice A1 y.kinds.length c1, .int .i64 y.pos] 101)) wr.heap.size 101 [.string y.rel, .slice A1 y.kinds.length c1, .int .i64 y.pos]) := heap_alloc_new _ _
          have HB1 : Hid (Below W0.heap.size W0 (wr.alloc (.cells #[.string y.rel, .slice A1 y.kinds.length c1, .int .i64 y.pos] 101))) := HB.out.alloc HB.out.size _
          have HLw : Hid (Below wr.heap.size wr (wr.alloc (.cells #[.string y.rel, .slice A1 y.kinds.length c1, .int .i64 y.pos] 101))) := (Below.refl _ _).alloc (Nat.le_refl _) _
          generalize soleB 2 y.rel = vN at C HDe
          cases vN with
          | false =>
            have HF : Hid (formedB p = false) := by show _ = _; rw [H2.out, HE.out, HDe.out]; simp only [Bool.false_and]
            clear HE HDe
            go_wp2_with fail
            refine (C.out _).mono ?_
            rintro e w2 ⟨rfl, hb⟩
            have HBF := Lib.hid (HB0.out.trans ((HB1.out.trans (hb.mono HB1.out.size)).mono HB0.out.size))
            clear hb
            go_wp2_with fail
            go_ret
            exact ⟨by rw [HF.out]; rfl, HBF.out⟩
          | true =>
            rw [Bool.true_and] at HDe
            by_cases h6 : y.kinds.length ≤ 6
            · have e6 : decide (6 < y.kinds.length) = false := by simp; omega
              have e6i : decide ((6 : Int) < (y.kinds.length : Int)) = false := by simp; omega
              rw [decide_eq_true h6, Bool.true_and] at HDe
              clear h6
              go_wp2_with fail
              refine (C.out _).mono ?_
              rintro e w2 ⟨rfl, hb⟩
              have HB2 : Hid (Below W0.heap.size W0 w2) := HB1.out.trans (hb.mono HB1.out.size)
              have HL2 : Hid (Below wr.heap.size wr w2) := HLw.out.trans (hb.mono HLw.out.size)
              have HO2 := Lib.hid (HBx.out.below hb)
              have x1 := HO2.out.cell 1
              simp only [List.getElem?_cons_zero, List.getElem?_cons_succ] at x1
              clear hb
              obtain ⟨b4, hb4⟩ : ∃ b, b = wr.heap.size := ⟨_, rfl⟩
              rw [← hb4] at HO2
              go_wp2_with fail
              rw [← hb4]
              clear x1 hb4 e6 e6i
              obtain ⟨wq, hwq⟩ : ∃ wq, wq = wr := ⟨_, rfl⟩
              subst hwq
              go_loopw [5] (fun i wr => ∃ k : Nat, k ≤ y.kinds.length ∧ i = .int .i64 k ∧ Hid (y.kinds.all kindB = (y.kinds.drop k).all kindB) ∧ Hid (Below w2.heap.size w2 wr)) (fun i _ => y.kinds.length - (intOf i).toNat)
              case atStart => exact ⟨0, Nat.zero_le _, rfl, Lib.hid rfl, Lib.hid (Below.refl _ _)⟩
              case round =>
                obtain ⟨k, hk, rfl, HXk, HBk⟩ := hrel
                have HOk := HO2.out.below HBk.out
                have x1 := HOk.cell 1
                simp only [List.getElem?_cons_zero, List.getElem?_cons_succ] at x1
                have xq := HOk.lt
                clear HOk
                have HBF := Lib.hid (HB0.out.trans ((HB2.out.trans (HBk.out.mono HB2.out.size)).mono HB0.out.size))
                by_cases hkt : k < y.kinds.length
                · obtain ⟨g2, o2, hA2, hgw2, m0⟩ := HKR.out.at_ hkt
                  have m0 := ((HL2.out.trans (HBk.out.mono HL2.out.size)).cell (p := ⟨g2, _, none⟩) hgw2).trans m0
                  rw [Nat.mul_one] at m0
                  have HSk : Hid ((y.kinds.drop k).all kindB = (kindB y.kinds[k] && (y.kinds.drop (k + 1)).all kindB)) := by show _ = _; rw [List.drop_eq_getElem_cons hkt, List.all_cons]
                  have HEk := Lib.hid (HXk.out.trans HSk.out)
                  clear HXk HSk
                  subst hA2
                  generalize y.kinds[k] = z at *
                  by_cases hz1 : z = 1
                  · have q1 : (z != 1) = false := by simp [hz1]
                    have q1' : (z == 1) = true := by simp [hz1]
                    have hkb : kindB z = true := by unfold kindB; exact decide_eq_true (.inl hz1)
                    rw [hkb, Bool.true_and] at HEk
                    clear hkb hz1
                    go_wp2_with fail
                    go_roundw
                    case rel => exact ⟨k + 1, by omega, by go_num, HEk, HBk⟩
                    case measure => simp [intOf]; omega
                  · have q1 : (z != 1) = true := by simp [hz1]
                    have q1' : (z == 1) = false := by simp [hz1]
                    by_cases hz2 : z = 2
                    · have q2 : (z != 2) = false := by simp [hz2]
                      have q2' : (z == 2) = true := by simp [hz2]
                      have hkb : kindB z = true := by unfold kindB; exact decide_eq_true (.inr hz2)
                      rw [hkb, Bool.true_and] at HEk
                      clear hkb hz1 hz2
                      go_wp2_with fail
                      go_roundw
                      case rel => exact ⟨k + 1, by omega, by go_num, HEk, HBk⟩
                      case measure => simp [intOf]; omega
                    · have q2 : (z != 2) = true := by simp [hz2]
                      have q2' : (z == 2) = false := by simp [hz2]
                      have hkb : kindB z = false := by unfold kindB; exact decide_eq_false (fun h => h.elim hz1 hz2)
                      have HF : Hid (formedB p = false) := by show _ = _; rw [H2.out, HE.out, HDe.out, HEk.out, hkb]; simp only [Bool.false_and]
                      clear hkb hz1 hz2 HEk
                      go_wp2_with fail
                      go_ret
                      exact ⟨by rw [HF.out]; rfl, HBF.out⟩
                · have HEn : Hid (p.decls.all rightDe = (p.decls.drop (j + 1)).all rightDe) := by show _ = _; rw [HE.out, HDe.out, HXk.out, List.drop_eq_nil_of_le (show y.kinds.length ≤ k by omega)]; rfl
                  have HBn : Hid (Below W0.heap.size W0 wr) := HB2.out.trans (HBk.out.mono HB2.out.size)
                  clear HXk
                  go_wp2_with fail
                  go_roundw
                  case rel => exact ⟨j + 1, by omega, by go_num, HEn, HBn⟩
                  case measure => simp [intOf]; omega
            · have e6 : decide (6 < y.kinds.length) = true := by simp; omega
              have e6i : decide ((6 : Int) < (y.kinds.length : Int)) = true := by simp; omega
              rw [decide_eq_false h6, Bool.false_and] at HDe
              have HF : Hid (formedB p = false) := by show _ = _; rw [H2.out, HE.out, HDe.out]; simp only [Bool.false_and]
              clear h6 HE HDe
              go_wp2_with fail
              refine (C.out _).mono ?_
              rintro e w2 ⟨rfl, hb⟩
              have HBF := Lib.hid (HB0.out.trans ((HB1.out.trans (hb.mono HB1.out.size)).mono HB0.out.size))
              have HO2 := Lib.hid (HBx.out.below hb)
              have x1 := HO2.out.cell 1
              simp only [List.getElem?_cons_zero, List.getElem?_cons_succ] at x1
              clear hb
              go_wp2_with fail
              go_ret
              exact ⟨by rw [HF.out]; rfl, HBF.out⟩
        · have HE : Hid (formedB p = p.rules.all rightRu) := by show _ = _; rw [H2.out, HX.out, List.drop_eq_nil_of_le (show p.decls.length ≤ j by omega)]; rfl
          have HBd := Lib.hid (HB0.out.trans (HB.out.mono HB0.out.size))
          have HOd := Lib.hid (HO.out.below HB.out)
          clear HX HB HO
          obtain ⟨wd, hwd⟩ : ∃ wd, wd = wr := ⟨_, rfl⟩
          subst hwd
          go_wp2_with fail
          clear c0 c1 cq
          go_loopw [6] (fun i wr => ∃ j : Nat, j ≤ p.rules.length ∧ i = .int .i64 j ∧ Hid (p.rules.all rightRu = (p.rules.drop j).all rightRu) ∧ Hid (Below wd.heap.size wd wr)) (fun i _ => p.rules.length - (intOf i).toNat)
          case atStart => exact ⟨0, Nat.zero_le _, rfl, Lib.hid rfl, Lib.hid (Below.refl _ _)⟩
          case round =>
            obtain ⟨j, hj, rfl, HX, HB⟩ := hrel
            have HOr := HOd.out.below HB.out
            have c1 := HOr.cell 1
            simp only [List.getElem?_cons_zero, List.getElem?_cons_succ] at c1
            have cq := HOr.lt
            clear HOr
            by_cases hlt : j < p.rules.length
            · obtain ⟨g, o, rfl, hgw, hc⟩ := HVR.out.at_ hlt
              obtain ⟨A1, c1', B1, d1, k0, k1, k2, k3, k4, k5, hRV⟩ := (hc.pers (Pers.of (HBd.out.trans (HB.out.mono HBd.out.size)))).open_
              have HS : Hid ((p.rules.drop j).all rightRu = (rightRu p.rules[j] && (p.rules.drop (j + 1)).all rightRu)) := by show _ = _; rw [List.drop_eq_getElem_cons hlt, List.all_cons]
              have HEr := Lib.hid (HX.out.trans HS.out)
              have C : Hid (Calls Tryz.prog 22 #[ruV p.rules[j] A1 c1' B1 d1] wr fun e w' => e = .returned (.bool (rightRu p.rules[j])) ∧ Below wr.heap.size wr w') := refRu_is p.rules[j] A1 c1' B1 d1 _ wr rfl hRV
              unfold ruV at C
              clear HS HX hc hRV
              generalize p.rules[j] = y at *
              generalize rightRu y = vR at C HEr
              cases vR with
              | false =>
                have HF : Hid (formedB p = false) := by show _ = _; rw [HE.out, HEr.out]; simp only [Bool.false_and]
                clear HEr
                go_wp2_with fail
                refine C.out.mono ?_
                rintro e w' ⟨rfl, hb⟩
                have HBF := Lib.hid (HBd.out.trans ((HB.out.trans (hb.mono HB.out.size)).mono HBd.out.size))
                clear hb
                go_wp2_with fail
                go_ret
                exact ⟨by rw [HF.out]; rfl, HBF.out⟩
              | true =>
                rw [Bool.true_and] at HEr
                go_wp2_with fail
                refine C.out.mono ?_
                rintro e w' ⟨rfl, hb⟩
                have HB' : Hid (Below wd.heap.size wd w') := HB.out.trans (hb.mono HB.out.size)
                clear hb
                go_wp2_with fail
                go_roundw
                case rel => exact ⟨j + 1, by omega, by go_num, HEr, HB'⟩
                case measure => simp [intOf]; omega
            · have HF : Hid (formedB p = true) := by show _ = _; rw [HE.out, HX.out, List.drop_eq_nil_of_le (show p.rules.length ≤ j by omega)]; rfl
              have HBF := Lib.hid (HBd.out.trans (HB.out.mono HBd.out.size))
              clear HX
              go_wp2_with fail
              go_ret
              exact ⟨by rw [HF.out]; rfl, HBF.out⟩
    · have e64 : decide (64 < p.rules.length) = true := by simp; omega
      have e64i : decide ((64 : Int) < (p.rules.length : Int)) = true := by simp; omega
      have HF : Hid (formedB p = false) := by show _ = _; rw [H.out, decide_eq_false h64, Bool.false_and, Bool.and_false]
      clear h64
      go_enter Tryz.func9, Tryz.ntmps9
      go_wp2_with fail
      go_ret
      exact ⟨by rw [HF.out]; rfl, hb0⟩
  · have e32 : decide (32 < p.decls.length) = true := by simp; omega
    have e32i : decide ((32 : Int) < (p.decls.length : Int)) = true := by simp; omega
    have HF : Hid (formedB p = false) := by show _ = _; rw [H.out, decide_eq_false h32, Bool.false_and, Bool.false_and]
    clear h32
    go_enter Tryz.func9, Tryz.ntmps9
    go_wp2_with fail
    go_ret
    exact ⟨by rw [HF.out]; rfl, hb0⟩
end Go.Proofs.YtikohamfnnlhcaaGreatDoor
