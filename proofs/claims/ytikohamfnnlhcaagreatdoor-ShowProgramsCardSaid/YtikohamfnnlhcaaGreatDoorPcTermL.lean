/- What is right: aggregates of rules; rules. Conditions: texts of at most 2^47 bytes; lex's two tables and strconv's variables as they are laid. -/
import Derived.Test.YtikohamfnnlhcaaGreatDoorPcTermK
set_option linter.unusedVariables false
set_option linter.unusedSimpArgs false
namespace Go.Proofs.YtikohamfnnlhcaaGreatDoor
open Go.RowKit Go.Deep Go.Shelf

set_option maxRecDepth 100000 in
set_option maxHeartbeats 1000000 in
theorem aggregated_is (r : TRu) (A : Option Addr) (c : Nat) (B : Option Addr) (d : Nat) (b : Bool) (w : World) (h : aggB r = b) (hV : RuV w r A B) :
    Calls Tryz.prog 76 #[ruV r A c B d] w fun e w' => e = .returned (.bool b) ∧ Below w.heap.size w w' := by
  have hr := Lib.hid hV.am.row
  have hlen := hV.am.row.1
  have hO : Own (w.alloc (.cells #[.string r.head.rel, .slice A r.head.args.length c, .int .i64 r.agg, .int .i64 r.col, .slice B r.body.length d, .int .i64 r.pos] 52)) w.heap.size 52
    [.string r.head.rel, .slice A r.head.args.length c, .int .i64 r.agg, .int .i64 r.col, .slice B r.body.length d, .int .i64 r.pos] := heap_alloc_new _ _
  have hb0 : Below w.heap.size w (w.alloc (.cells #[.string r.head.rel, .slice A r.head.args.length c, .int .i64 r.agg, .int .i64 r.col, .slice B r.body.length d, .int .i64 r.pos] 52)) := (Below.refl _ _).alloc (Nat.le_refl _) _
  unfold ruV
  unfold aggB at h
  clear hV
  have C1 := Lib.hid (fun W => aggregate_any (.string r.head.rel) (.slice A r.head.args.length c) (.slice B r.body.length d) (.int .i64 r.pos) r.agg r.col W)
  by_cases h1 : r.agg = 0 ∧ r.col = 0
  · rw [if_pos h1] at h
    subst h
    have kq := eqArr r.agg r.col 0 0 true (by simp [h1])
    clear h1 hO
    go_enter Tryz.func76, Tryz.ntmps76
    go_wp2_with fail
    refine (C1.out _).mono ?_
    rintro e w' ⟨rfl, hb⟩
    have HB : Hid (Below w.heap.size w w') := hb0.trans (hb.mono (by simp))
    clear hb
    go_wp2_with fail
    go_ret
    exact ⟨rfl, HB.out⟩
  · rw [if_neg h1] at h
    have kq := eqArr r.agg r.col 0 0 false (decide_eq_false h1)
    clear h1
    cases h2 : decide (1 ≤ r.agg ∧ r.agg ≤ 4) with
    | false =>
      rw [h2, Bool.false_and] at h
      subst h
      have C2 : Hid (∀ W, Calls Tryz.prog 82 #[.int .i64 r.agg, .int .i64 4] W fun e w' => e = .returned (.bool false) ∧ W = w') := fun W => numbered_is r.agg 4 false h2 W
      clear h2
      go_enter Tryz.func76, Tryz.ntmps76
      go_wp2_with fail
      refine (C1.out _).mono ?_
      rintro e w' ⟨rfl, hb⟩
      have HB : Hid (Below w.heap.size w w') := hb0.trans (hb.mono (by simp))
      have c2 := (hO.below hb).cell 2
      clear hb hO
      go_wp2_with fail
      refine (C2.out _).mono ?_
      rintro e w2 ⟨rfl, rfl⟩
      go_wp2_with fail
      go_ret
      exact ⟨rfl, HB.out⟩
    | true =>
      rw [h2, Bool.true_and] at h
      have C2 : Hid (∀ W, Calls Tryz.prog 82 #[.int .i64 r.agg, .int .i64 4] W fun e w' => e = .returned (.bool true) ∧ W = w') := fun W => numbered_is r.agg 4 true h2 W
      clear h2
      by_cases h3 : r.col < 0
      · have hf : b = false := by
          rw [← h]
          split
          · rw [decide_eq_false (by omega), Bool.false_and]
          · rfl
        subst hf
        clear h
        go_enter Tryz.func76, Tryz.ntmps76
        go_wp2_with fail
        refine (C1.out _).mono ?_
        rintro e w' ⟨rfl, hb⟩
        have HB : Hid (Below w.heap.size w w') := hb0.trans (hb.mono (by simp))
        have c2 := (hO.below hb).cell 2
        have c3 := (hO.below hb).cell 3
        clear hb hO
        go_wp2_with fail
        refine (C2.out _).mono ?_
        rintro e w2 ⟨rfl, rfl⟩
        go_wp2_with fail
        go_ret
        exact ⟨rfl, HB.out⟩
      · obtain ⟨k, hk⟩ : ∃ k : Nat, r.col = (k : Int) := ⟨r.col.toNat, by omega⟩
        rw [hk] at h hO hb0 C1 kq ⊢
        have hkn : ((k : Int)).toNat = k := rfl
        rw [hkn] at h
        clear h3 hk hkn
        by_cases h4 : k < r.head.args.length
        · rw [List.getElem?_eq_getElem h4] at h
          simp only at h
          rw [decide_eq_true (by omega : (0 : Int) ≤ (k : Int)), Bool.true_and] at h
          obtain ⟨g, o, rfl, hgw, t0, _, _, _, hok⟩ := hr.out.at_ h4
          generalize r.head.args[k] = y at *
          have h5 : (y.v.size = 0 ∧ y.v.toList = [] ∧ y.v.toList.isEmpty = true ∧ b = false) ∨ (¬ y.v.toList = [] ∧ y.v.toList.isEmpty = false ∧ b = true) := by
            by_cases hz : y.v.size = 0
            · exact .inl ⟨hz, (txt0 hz).1, (txt0 hz).2, by rw [← h]; simp [hz]⟩
            · have h6 := empty_not hz
              exact .inr ⟨(fun e => by rw [e] at h6; exact absurd h6.2 (by simp)), h6.2, by rw [← h]; simp [hz]⟩
          clear h hr
          rcases h5 with ⟨_, h51, h52, rfl⟩ | ⟨h51, h52, rfl⟩
          all_goals
            go_enter Tryz.func76, Tryz.ntmps76
            go_wp2_with fail
            refine (C1.out _).mono ?_
            rintro e w' ⟨rfl, hb⟩
            have HB : Hid (Below w.heap.size w w') := hb0.trans (hb.mono (by simp))
            have c1 := (hO.below hb).cell 1
            have c2 := (hO.below hb).cell 2
            have c3 := (hO.below hb).cell 3
            have t0 := (HB.out.cell (p := ⟨g, _, none⟩) hgw).trans t0
            clear hb hO
            go_wp2_with fail
            refine (C2.out _).mono ?_
            rintro e w2 ⟨rfl, rfl⟩
            go_wp2_with fail
            go_ret
            exact ⟨rfl, HB.out⟩
        · rw [List.getElem?_eq_none (by omega)] at h
          simp only at h
          subst h
          clear hr
          go_enter Tryz.func76, Tryz.ntmps76
          go_wp2_with fail
          refine (C1.out _).mono ?_
          rintro e w' ⟨rfl, hb⟩
          have HB : Hid (Below w.heap.size w w') := hb0.trans (hb.mono (by simp))
          have c1 := (hO.below hb).cell 1
          have c2 := (hO.below hb).cell 2
          have c3 := (hO.below hb).cell 3
          clear hb hO
          go_wp2_with fail
          refine (C2.out _).mono ?_
          rintro e w2 ⟨rfl, rfl⟩
          go_wp2_with fail
          go_ret
          exact ⟨rfl, HB.out⟩
set_option maxRecDepth 100000 in
set_option maxHeartbeats 1000000 in
theorem RightRule_is (r : TRu) (A : Option Addr) (c : Nat) (B : Option Addr) (d : Nat) (b : Bool) (w : World) (h : rightRu r = b) (hV : RuV w r A B) (hL : Lays w) :
    Calls Tryz.prog 47 #[ruV r A c B d] w fun e w' => e = .returned (.bool b) ∧ Below w.heap.size w w' := by
  have hO : Own (w.alloc (.cells #[.string r.head.rel, .slice A r.head.args.length c, .int .i64 r.agg, .int .i64 r.col, .slice B r.body.length d, .int .i64 r.pos] 52)) w.heap.size 52
    [.string r.head.rel, .slice A r.head.args.length c, .int .i64 r.agg, .int .i64 r.col, .slice B r.body.length d, .int .i64 r.pos] := heap_alloc_new _ _
  have hb0 : Below w.heap.size w (w.alloc (.cells #[.string r.head.rel, .slice A r.head.args.length c, .int .i64 r.agg, .int .i64 r.col, .slice B r.body.length d, .int .i64 r.pos] 52)) := (Below.refl _ _).alloc (Nat.le_refl _) _
  have HL := Lib.hid hL
  have HV := Lib.hid hV
  unfold rightRu at h
  cases h1 : rightAm r.head with
  | false =>
    rw [h1, Bool.false_and] at h
    subst h
    have C1 := Lib.hid (amRight_is r.head A c false _ h1 (hV.below hb0).am (hL.below hb0))
    unfold amV at C1
    unfold ruV
    clear h1 hV hL hO
    go_enter Tryz.func47, Tryz.ntmps47
    go_wp2_with fail
    refine C1.out.mono ?_
    rintro e w' ⟨rfl, hb⟩
    have HB : Hid (Below w.heap.size w w') := hb0.trans (hb.mono (by simp))
    clear hb
    go_wp2_with fail
    go_ret
    exact ⟨rfl, HB.out⟩
  | true =>
    rw [h1, Bool.true_and] at h
    have C1 := Lib.hid (amRight_is r.head A c true _ h1 (hV.below hb0).am (hL.below hb0))
    unfold amV at C1
    cases h2 : aggB r with
    | false =>
      rw [h2, Bool.false_and] at h
      subst h
      have C2 : Hid (∀ W, Below w.heap.size w W → Calls Tryz.prog 76 #[ruV r A c B d] W fun e w' => e = .returned (.bool false) ∧ Below W.heap.size W w') := fun W hb => aggregated_is r A c B d false W h2 (HV.out.below hb)
      unfold ruV at C2 ⊢
      clear h1 h2 hV hL
      go_enter Tryz.func47, Tryz.ntmps47
      go_wp2_with fail
      refine C1.out.mono ?_
      rintro e w' ⟨rfl, hb⟩
      have HB : Hid (Below w.heap.size w w') := hb0.trans (hb.mono (by simp))
      have HO := Lib.hid (hO.below hb)
      have c0 := HO.out.cell 0
      have c1 := HO.out.cell 1
      have c2 := HO.out.cell 2
      have c3 := HO.out.cell 3
      have c4 := HO.out.cell 4
      have c5 := HO.out.cell 5
      clear hb hO
      go_wp2_with fail
      refine (C2.out _ HB.out).mono ?_
      rintro e w2 ⟨rfl, hb⟩
      have HB2 : Hid (Below w.heap.size w w2) := HB.out.trans (hb.mono HB.out.size)
      clear hb c0 c1 c2 c3 c4 c5
      go_wp2_with fail
      go_ret
      exact ⟨rfl, HB2.out⟩
    | true =>
      rw [h2, Bool.true_and] at h
      have C2 : Hid (∀ W, Below w.heap.size w W → Calls Tryz.prog 76 #[ruV r A c B d] W fun e w' => e = .returned (.bool true) ∧ Below W.heap.size W w') := fun W hb => aggregated_is r A c B d true W h2 (HV.out.below hb)
      have H := Lib.hid h
      unfold ruV at C2 ⊢
      clear h1 h2 hV hL h
      go_enter Tryz.func47, Tryz.ntmps47
      go_wp2_with fail
      refine C1.out.mono ?_
      rintro e w' ⟨rfl, hb⟩
      have HB : Hid (Below w.heap.size w w') := hb0.trans (hb.mono (by simp))
      have HO := Lib.hid (hO.below hb)
      have c0 := HO.out.cell 0
      have c1 := HO.out.cell 1
      have c2 := HO.out.cell 2
      have c3 := HO.out.cell 3
      have c4 := HO.out.cell 4
      have c5 := HO.out.cell 5
      clear hb hO
      go_wp2_with fail
      refine (C2.out _ HB.out).mono ?_
      rintro e w2 ⟨rfl, hb⟩
      have HB2 : Hid (Below w.heap.size w w2) := HB.out.trans (hb.mono HB.out.size)
      have c4' := (HO.out.below hb).cell 4
      clear hb c0 c1 c2 c3 c4 c5
      have C3 := Lib.hid (everyLt_any B d r.body 8 w2 (HV.out.below HB2.out).row (HL.out.below HB2.out))
      go_wp2_with fail
      refine C3.out.mono ?_
      rintro e w3 ⟨rfl, hb⟩
      have HB3 : Hid (Below w.heap.size w w3) := HB2.out.trans (hb.mono HB2.out.size)
      clear hb
      have hl : decide ((r.body.length : Int) ≤ 8) = decide (r.body.length ≤ 8) := by congr 1; exact propext ⟨fun h => by omega, fun h => by omega⟩
      rw [hl, H.out]
      clear hl
      go_wp2_with fail
      go_ret
      exact ⟨rfl, HB3.out⟩

set_option maxRecDepth 100000 in
set_option maxHeartbeats 400000 in
theorem everyRu_any (A : Option Addr) (c : Nat) (l : List TRu) (m : Int) (w : World) (hV : Rg 6 RuC w A l) (hL : Lays w) :
    Calls Tryz.prog 69 #[.slice A l.length c, .int .i64 m, .func (.func 47) #[] #[]] w fun r w' => r = .returned (.bool (decide ((l.length : Int) ≤ m) && l.all rightRu)) ∧ Below w.heap.size w w' := by
  have HV := Lib.hid hV
  have hlen := hV.1
  have HL := Lib.hid hL
  clear hV hL
  by_cases hm : (l.length : Int) ≤ m
  · have HM : Hid (decide ((l.length : Int) ≤ m) = true) := by show _ = _; simp [hm]
    go_enter Tryz.func69, Tryz.ntmps69
    go_wp2_with fail
    go_loopw [15] (fun i wr => ∃ j : Nat, j ≤ l.length ∧ i = .int .i64 j ∧ Hid (l.all rightRu = (l.drop j).all rightRu) ∧ Hid (Below w.heap.size w wr)) (fun i _ => l.length - (intOf i).toNat)
    case atStart => exact ⟨0, Nat.zero_le _, rfl, Lib.hid rfl, Lib.hid (Below.refl _ _)⟩
    case round =>
      obtain ⟨j, hj, rfl, HX, HB⟩ := hrel
      by_cases hlt : j < l.length
      · obtain ⟨b, o, rfl, hbw, hc⟩ := HV.out.at_ hlt
        have HS : Hid ((l.drop j).all rightRu = (rightRu l[j] && (l.drop (j + 1)).all rightRu)) := by show _ = _; rw [List.drop_eq_getElem_cons hlt, List.all_cons]
        have hc := hc.pers (Pers.of HB.out)
        obtain ⟨AA, ac, BB, bc, c0, c1, c2, c3, c4, c5, hy⟩ := hc.open_
        have HY := Lib.hid hy
        clear hc hy
        generalize l[j] = y at *
        cases hb : rightRu y with
        | false =>
          have HE := Lib.hid (HX.out.trans HS.out)
          rw [hb, Bool.false_and] at HE
          have C := Lib.hid (RightRule_is y AA ac BB bc _ _ hb (HY.out.below ((Below.refl _ _).alloc (o := .cells #[.string y.head.rel, .slice AA y.head.args.length ac, .int .i64 y.agg, .int .i64 y.col, .slice BB y.body.length bc, .int .i64 y.pos] 52) (Nat.le_refl _))) (HL.out.below (HB.out.alloc (o := .cells #[.string y.head.rel, .slice AA y.head.args.length ac, .int .i64 y.agg, .int .i64 y.col, .slice BB y.body.length bc, .int .i64 y.pos] 52) HB.out.size)))
          clear HX HS hb
          go_wp2_with fail
          refine C.out.mono ?_
          rintro e w' ⟨rfl, hb⟩
          have HB' : Hid (Below w.heap.size w w') := (HB.out.alloc HB.out.size _).trans (hb.mono (by simp; have := HB.out.size; omega))
          clear hb
          go_wp2_with fail
          go_ret
          exact ⟨by rw [HE.out]; simp, HB'.out⟩
        | true =>
          have HE := Lib.hid (HX.out.trans HS.out)
          rw [hb, Bool.true_and] at HE
          have C := Lib.hid (RightRule_is y AA ac BB bc _ _ hb (HY.out.below ((Below.refl _ _).alloc (o := .cells #[.string y.head.rel, .slice AA y.head.args.length ac, .int .i64 y.agg, .int .i64 y.col, .slice BB y.body.length bc, .int .i64 y.pos] 52) (Nat.le_refl _))) (HL.out.below (HB.out.alloc (o := .cells #[.string y.head.rel, .slice AA y.head.args.length ac, .int .i64 y.agg, .int .i64 y.col, .slice BB y.body.length bc, .int .i64 y.pos] 52) HB.out.size)))
          clear HX HS hb
          go_wp2_with fail
          refine C.out.mono ?_
          rintro e w' ⟨rfl, hb⟩
          have HB' : Hid (Below w.heap.size w w') := (HB.out.alloc HB.out.size _).trans (hb.mono (by simp; have := HB.out.size; omega))
          clear hb
          go_wp2_with fail
          go_roundw
          case rel => exact ⟨j + 1, by omega, by go_num, HE, HB'⟩
          case measure => simp [intOf]; omega
      · have HE : Hid ((l.drop j).all rightRu = true) := by show _ = _; rw [List.drop_eq_nil_of_le (by omega)]; rfl
        have HE := Lib.hid (HX.out.trans HE.out)
        clear HX
        go_wp2_with fail
        go_ret
        exact ⟨by rw [HE.out, HM.out]; rfl, HB.out⟩
  · have HM : Hid (decide ((l.length : Int) ≤ m) = false) := by show _ = _; simp only [decide_eq_false_iff_not]; exact hm
    have hm' : m < (l.length : Int) := by omega
    clear hm
    go_enter Tryz.func69, Tryz.ntmps69
    go_wp2_with fail
    go_ret
    exact ⟨by rw [HM.out]; simp, Below.refl _ _⟩

set_option maxRecDepth 100000 in
set_option maxHeartbeats 400000 in
theorem everyDe_any (A : Option Addr) (c : Nat) (l : List TDe) (m : Int) (w : World) (hV : Rg 3 DeC w A l) (hL : Lays w) :
    Calls Tryz.prog 67 #[.slice A l.length c, .int .i64 m, .func (.func 68) #[] #[]] w fun r w' => r = .returned (.bool (decide ((l.length : Int) ≤ m) && l.all rightDe)) ∧ Below w.heap.size w w' := by
  have HV := Lib.hid hV
  have hlen := hV.1
  have HL := Lib.hid hL
  clear hV hL
  by_cases hm : (l.length : Int) ≤ m
  · have HM : Hid (decide ((l.length : Int) ≤ m) = true) := by show _ = _; simp [hm]
    go_enter Tryz.func67, Tryz.ntmps67
    go_wp2_with fail
    go_loopw [15] (fun i wr => ∃ j : Nat, j ≤ l.length ∧ i = .int .i64 j ∧ Hid (l.all rightDe = (l.drop j).all rightDe) ∧ Hid (Below w.heap.size w wr)) (fun i _ => l.length - (intOf i).toNat)
    case atStart => exact ⟨0, Nat.zero_le _, rfl, Lib.hid rfl, Lib.hid (Below.refl _ _)⟩
    case round =>
      obtain ⟨j, hj, rfl, HX, HB⟩ := hrel
      by_cases hlt : j < l.length
      · obtain ⟨b, o, rfl, hbw, hc⟩ := HV.out.at_ hlt
        have HS : Hid ((l.drop j).all rightDe = (rightDe l[j] && (l.drop (j + 1)).all rightDe)) := by show _ = _; rw [List.drop_eq_getElem_cons hlt, List.all_cons]
        have hc := hc.pers (Pers.of HB.out)
        obtain ⟨c0, ⟨AA, ac, c1, hrow⟩, c2, hok⟩ := hc
        have HY := Lib.hid hrow
        clear hrow
        generalize l[j] = y at *
        cases hb : rightDe y with
        | false =>
          have HE := Lib.hid (HX.out.trans HS.out)
          rw [hb, Bool.false_and] at HE
          have C := Lib.hid (deRight_is y AA ac _ _ hb hok (HY.out.int (Pers.of ((Below.refl _ _).alloc (o := .cells #[.string y.rel, .slice AA y.kinds.length ac, .int .i64 y.pos] 100) (Nat.le_refl _)))) (HL.out.below (HB.out.alloc (o := .cells #[.string y.rel, .slice AA y.kinds.length ac, .int .i64 y.pos] 100) HB.out.size)))
          clear HX HS hb
          go_wp2_with fail
          refine C.out.mono ?_
          rintro e w' ⟨rfl, hb⟩
          have HB' : Hid (Below w.heap.size w w') := (HB.out.alloc HB.out.size _).trans (hb.mono (by simp; have := HB.out.size; omega))
          clear hb
          go_wp2_with fail
          go_ret
          exact ⟨by rw [HE.out]; simp, HB'.out⟩
        | true =>
          have HE := Lib.hid (HX.out.trans HS.out)
          rw [hb, Bool.true_and] at HE
          have C := Lib.hid (deRight_is y AA ac _ _ hb hok (HY.out.int (Pers.of ((Below.refl _ _).alloc (o := .cells #[.string y.rel, .slice AA y.kinds.length ac, .int .i64 y.pos] 100) (Nat.le_refl _)))) (HL.out.below (HB.out.alloc (o := .cells #[.string y.rel, .slice AA y.kinds.length ac, .int .i64 y.pos] 100) HB.out.size)))
          clear HX HS hb
          go_wp2_with fail
          refine C.out.mono ?_
          rintro e w' ⟨rfl, hb⟩
          have HB' : Hid (Below w.heap.size w w') := (HB.out.alloc HB.out.size _).trans (hb.mono (by simp; have := HB.out.size; omega))
          clear hb
          go_wp2_with fail
          go_roundw
          case rel => exact ⟨j + 1, by omega, by go_num, HE, HB'⟩
          case measure => simp [intOf]; omega
      · have HE : Hid ((l.drop j).all rightDe = true) := by show _ = _; rw [List.drop_eq_nil_of_le (by omega)]; rfl
        have HE := Lib.hid (HX.out.trans HE.out)
        clear HX
        go_wp2_with fail
        go_ret
        exact ⟨by rw [HE.out, HM.out]; rfl, HB.out⟩
  · have HM : Hid (decide ((l.length : Int) ≤ m) = false) := by show _ = _; simp only [decide_eq_false_iff_not]; exact hm
    have hm' : m < (l.length : Int) := by omega
    clear hm
    go_enter Tryz.func67, Tryz.ntmps67
    go_wp2_with fail
    go_ret
    exact ⟨by rw [HM.out]; simp, Below.refl _ _⟩
set_option maxRecDepth 100000 in
set_option maxHeartbeats 1000000 in
theorem Formed_any (p : TPg) (A : Option Addr) (c : Nat) (B : Option Addr) (d : Nat) (w : World) (hV : PgV w p A B) (hL : Lays w) :
    Calls Tryz.prog 36 #[pgV p A c B d] w fun e w' => e = .returned (.bool (formedB p)) ∧ Below w.heap.size w w' := by
  have hb0 : Below w.heap.size w (w.alloc (.cells #[.slice A p.decls.length c, .slice B p.rules.length d] 25)) := (Below.refl _ _).alloc (Nat.le_refl _) _
  have HL := Lib.hid hL
  have HV := Lib.hid hV
  have C1 := Lib.hid (everyDe_any A c p.decls 32 _ (hV.below hb0).decls (hL.below hb0))
  have hl : decide ((p.decls.length : Int) ≤ 32) = decide (p.decls.length ≤ 32) := by congr 1; exact propext ⟨fun h => by omega, fun h => by omega⟩
  rw [hl] at C1
  clear hV hL hl
  unfold formedB
  unfold pgV
  generalize (decide (p.decls.length ≤ 32) && p.decls.all rightDe) = q at C1 ⊢
  cases q with
  | false =>
    go_enter Tryz.func36, Tryz.ntmps36
    go_wp2_with fail
    refine C1.out.mono ?_
    rintro e w' ⟨rfl, hb⟩
    have HB : Hid (Below w.heap.size w w') := hb0.trans (hb.mono (by simp))
    clear hb
    go_wp2_with fail
    go_ret
    exact ⟨rfl, HB.out⟩
  | true =>
    go_enter Tryz.func36, Tryz.ntmps36
    go_wp2_with fail
    refine C1.out.mono ?_
    rintro e w' ⟨rfl, hb⟩
    have HB : Hid (Below w.heap.size w w') := hb0.trans (hb.mono (by simp))
    have c1 := (hb.cell (p := ⟨w.heap.size, 1, none⟩) (by simp)).trans ((World.cell?_alloc_new _ _ _ _).trans rfl)
    clear hb
    have C2 := Lib.hid (everyRu_any B d p.rules 64 w' (HV.out.below HB.out).rules (HL.out.below HB.out))
    have hl : decide ((p.rules.length : Int) ≤ 64) = decide (p.rules.length ≤ 64) := by congr 1; exact propext ⟨fun h => by omega, fun h => by omega⟩
    rw [hl] at C2
    clear hl
    generalize hq : (decide (p.rules.length ≤ 64) && p.rules.all rightRu) = q at C2
    have HQ := Lib.hid hq
    clear hq
    go_wp2_with fail
    refine C2.out.mono ?_
    rintro e w3 ⟨rfl, hb⟩
    have HB3 : Hid (Below w.heap.size w w3) := HB.out.trans (hb.mono HB.out.size)
    clear hb
    go_wp2_with fail
    go_ret
    exact ⟨by rw [HQ.out]; simp, HB3.out⟩
end Go.Proofs.YtikohamfnnlhcaaGreatDoor
