/- What is right: aggregates of rules; rules. Conditions: texts of at most 2^47 bytes; lex's two tables and strconv's variables as they are laid. -/
import Derived.Test.YtikohamfnnlhcaaGreatDoorPbTermK
set_option linter.unusedVariables false
set_option linter.unusedSimpArgs false
namespace Go.Proofs.YtikohamfnnlhcaaGreatDoor
open Go.RowKit Go.Deep Go.Shelf

set_option maxRecDepth 100000 in
set_option maxHeartbeats 1000000 in
theorem aggregated_is (r : TRu) (A : Option Addr) (c : Nat) (B : Option Addr) (d : Nat) (b : Bool) (w : World) (h : aggB r = b) (hV : RuV w r A B) :
    Calls Tryz.prog 76 #[ruV r A c B d] w fun e w' => e = .returned (.bool b) ∧ Below w.heap.size w w' := by
  have hr := Lib.hid hV.am.row
  have hlen := hV.am.row.1
  have hO : Own (w.alloc (.cells #[.string r.head.rel, .slice A r.head.args.length c, .int .i64 r.agg, .int .i64 r.col, .slice B r.body.length d, .int .i64 r.pos] 52)) w.heap.size 52
    [.string r.head.rel, .slice A r.head.args.length c, .int .i64 r.agg, .int .i64 r.col, .slice B r.body.length d, .int .i64 r.pos] := heap_alloc_new _ _
  have hb0 : Below w.heap.size w (w.alloc (.cells #[.string r.head.rel, .slice A r.head.args.length c, .int .i64 r.agg, .int .i64 r.col, .slice B r.body.length d, .int .i64 r.pos] 52)) := (Below.refl _ _).alloc (Nat.le_refl _) _
  unfold ruV
  unfold aggB at h
  clear hV
  have C1 := Lib.hid (fun W => aggregate_any (.string r.head.rel) (.slice A r.head.args.length c) (.slice B r.body.length d) (.int .i64 r.pos) r.agg r.col W)
  by_cases h1 : r.agg = 0 ∧ r.col = 0
  · rw [if_pos h1] at h
    subst h
    have kq := eqArr r.agg r.col 0 0 true (by simp [h1])
    clear h1 hO
    go_enter Tryz.func76, Tryz.ntmps76
    go_wp2_with fail
    refine (C1.out _).mono ?_
    rintro e w' ⟨rfl, hb⟩
    have HB : Hid (Below w.heap.size w w') := hb0.trans (hb.mono (by simp))
    clear hb
    go_wp2_with fail
    go_ret
    exact ⟨rfl, HB.out⟩
  · rw [if_neg h1] at h
    have kq := eqArr r.agg r.col 0 0 false (decide_eq_false h1)
    clear h1
    cases h2 : decide (1 ≤ r.agg ∧ r.agg ≤ 4) with
    | false =>
      rw [h2, Bool.false_and] at h
      subst h
      have C2 : Hid (∀ W, Calls Tryz.prog 82 #[.int .i64 r.agg, .int .i64 4] W fun e w' => e = .returned (.bool false) ∧ W = w') := fun W => numbered_is r.agg 4 false h2 W
      clear h2
      go_enter Tryz.func76, Tryz.ntmps76
      go_wp2_with fail
      refine (C1.out _).mono ?_
      rintro e w' ⟨rfl, hb⟩
      have HB : Hid (Below w.heap.size w w') := hb0.trans (hb.mono (by simp))
      have c2 := (hO.below hb).cell 2
      clear hb hO
      go_wp2_with fail
      refine (C2.out _).mono ?_
      rintro e w2 ⟨rfl, rfl⟩
      go_wp2_with fail
      go_ret
      exact ⟨rfl, HB.out⟩
    | true =>
      rw [h2, Bool.true_and] at h
      have C2 : Hid (∀ W, Calls Tryz.prog 82 #[.int .i64 r.agg, .int .i64 4] W fun e w' => e = .returned (.bool true) ∧ W = w') := fun W => numbered_is r.agg 4 true h2 W
      clear h2
      by_cases h3 : r.col < 0
      · have hf : b = false := by
          rw [← h]
          split
          · rw [decide_eq_false (by omega), Bool.false_and]
          · rfl
        subst hf
        clear h
        go_enter Tryz.func76, Tryz.ntmps76
        go_wp2_with fail
        refine (C1.out _).mono ?_
        rintro e w' ⟨rfl, hb⟩
        have HB : Hid (Below w.heap.size w w') := hb0.trans (hb.mono (by simp))
        have c2 := (hO.below hb).cell 2
        have c3 := (hO.below hb).cell 3
        clear hb hO
        go_wp2_with fail
        refine (C2.out _).mono ?_
        rintro e w2 ⟨rfl, rfl⟩
        go_wp2_with fail
        go_ret
        exact ⟨rfl, HB.out⟩
      · obtain ⟨k, hk⟩ : ∃ k : Nat, r.col = (k : Int) := ⟨r.col.toNat, by omega⟩
        rw [hk] at h hO hb0 C1 kq ⊢
        have hkn : ((k : Int)).toNat = k := rfl
        rw [hkn] at h
        clear h3 hk hkn
        by_cases h4 : k < r.head.args.length
        · rw [List.getElem?_eq_getElem h4] at h
          simp only at h
          rw [decide_eq_true (by omega : (0 : Int) ≤ (k : Int)), Bool.true_and] at h
          obtain ⟨g, o, rfl, hgw, t0, _, _, _, hok⟩ := hr.out.at_ h4
          generalize r.head.args[k] = y at *
          have h5 : (y.v.size = 0 ∧ y.v.toList = [] ∧ y.v.toList.isEmpty = true ∧ b = false) ∨ (¬ y.v.toList = [] ∧ y.v.toList.isEmpty = false ∧ b = true) := by
            by_cases hz : y.v.size = 0
            · exact .inl ⟨hz, (txt0 hz).1, (txt0 hz).2, by rw [← h]; simp [hz]⟩
            · have h6 := empty_not hz
              exact .inr ⟨(fun e => by rw [e] at h6; exact absurd h6.2 (by simp)), h6.2, by rw [← h]; simp [hz]⟩
          clear h hr
          rcases h5 with ⟨_, h51, h52, rfl⟩ | ⟨h51, h52, rfl⟩
          all_goals
            go_enter Tryz.func76, Tryz.ntmps76
            go_wp2_with fail
            refine (C1.out _).mono ?_
            rintro e w' ⟨rfl, hb⟩
            have HB : Hid (Below w.heap.size w w') := hb0.trans (hb.mono (by simp))
            have c1 := (hO.below hb).cell 1
            have c2 := (hO.below hb).cell 2
            have c3 := (hO.below hb).cell 3
            have t0 := (HB.out.cell (p := ⟨g, _, none⟩) hgw).trans t0
            clear hb hO
            go_wp2_with fail
            refine (C2.out _).mono ?_
            rintro e w2 ⟨rfl, rfl⟩
            go_wp2_with fail
            go_ret
            exact ⟨rfl, HB.out⟩
        · rw [List.getElem?_eq_none (by omega)] at h
          simp only at h
          subst h
          clear hr
          go_enter Tryz.func76, Tryz.ntmps76
          go_wp2_with fail
          refine (C1.out _).mono ?_
          rintro e w' ⟨rfl, hb⟩
          have HB : Hid (Below w.heap.size w w') := hb0.trans (hb.mono (by simp))
          have c1 := (hO.below hb).cell 1
          have c2 := (hO.below hb).cell 2
          have c3 := (hO.below hb).cell 3
          clear hb hO
          go_wp2_with fail
          refine (C2.out _).mono ?_
          rintro e w2 ⟨rfl, rfl⟩
          go_wp2_with fail
          go_ret
          exact ⟨rfl, HB.out⟩
set_option maxRecDepth 100000 in
set_option maxHeartbeats 1000000 in
theorem RightRule_is (r : TRu) (A : Option Addr) (c : Nat) (B : Option Addr) (d : Nat) (b : Bool) (w : World) (h : rightRu r = b) (hV : RuV w r A B) (hL : Lays w) :
    Calls Tryz.prog 47 #[ruV r A c B d] w fun e w' => e = .returned (.bool b) ∧ Below w.heap.size w w' := by
  have hO : Own (w.alloc (.cells #[.string r.head.rel, .slice A r.head.args.length c, .int .i64 r.agg, .int .i64 r.col, .slice B r.body.length d, .int .i64 r.pos] 52)) w.heap.size 52
    [.string r.head.rel, .slice A r.head.args.length c, .int .i64 r.agg, .int .i64 r.col, .slice B r.body.length d, .int .i64 r.pos] := heap_alloc_new _ _
  have hb0 : Below w.heap.size w (w.alloc (.cells #[.string r.head.rel, .slice A r.head.args.length c, .int .i64 r.agg, .int .i64 r.col, .slice B r.body.length d, .int .i64 r.pos] 52)) := (Below.refl _ _).alloc (Nat.le_refl _) _
  have HL := Lib.hid hL
  have HV := Lib.hid hV
  unfold rightRu at h
  cases h1 : rightAm r.head with
  | false =>
    rw [h1, Bool.false_and] at h
    subst h
    have C1 := Lib.hid (amRight_is r.head A c false _ h1 (hV.below hb0).am (hL.below hb0))
    unfold amV at C1
    unfold ruV
    clear h1 hV hL hO
    go_enter Tryz.func47, Tryz.ntmps47
    go_wp2_with fail
    refine C1.out.mono ?_
    rintro e w' ⟨rfl, hb⟩
    have HB : Hid (Below w.heap.size w w') := hb0.trans (hb.mono (by simp))
    clear hb
    go_wp2_with fail
    go_ret
    exact ⟨rfl, HB.out⟩
  | true =>
    rw [h1, Bool.true_and] at h
    have C1 := Lib.hid (amRight_is r.head A c true _ h1 (hV.below hb0).am (hL.below hb0))
    unfold amV at C1
    cases h2 : aggB r with
    | false =>
      rw [h2, Bool.false_and] at h
      subst h
      have C2 : Hid (∀ W, Below w.heap.size w W → Calls Tryz.prog 76 #[ruV r A c B d] W fun e w' => e = .returned (.bool false) ∧ Below W.heap.size W w') := fun W hb => aggregated_is r A c B d false W h2 (HV.out.below hb)
      unfold ruV at C2 ⊢
      clear h1 h2 hV hL
      go_enter Tryz.func47, Tryz.ntmps47
      go_wp2_with fail
      refine C1.out.mono ?_
      rintro e w' ⟨rfl, hb⟩
      have HB : Hid (Below w.heap.size w w') := hb0.trans (hb.mono (by simp))
      have HO := Lib.hid (hO.below hb)
      have c0 := HO.out.cell 0
      have c1 := HO.out.cell 1
      have c2 := HO.out.cell 2
      have c3 := HO.out.cell 3
      have c4 := HO.out.cell 4
      have c5 := HO.out.cell 5
      clear hb hO
      go_wp2_with fail
      refine (C2.out _ HB.out).mono ?_
      rintro e w2 ⟨rfl, hb⟩
      have HB2 : Hid (Below w.heap.size w w2) := HB.out.trans (hb.mono HB.out.size)
      clear hb c0 c1 c2 c3 c4 c5
      go_wp2_with fail
      go_ret
      exact ⟨rfl, HB2.out⟩
    | true =>
      rw [h2, Bool.true_and] at h
      have C2 : Hid (∀ W, Below w.heap.size w W → Calls Tryz.prog 76 #[ruV r A c B d] W fun e w' => e = .returned (.bool true) ∧ Below W.heap.size W w') := fun W hb => aggregated_is r A c B d true W h2 (HV.out.below hb)
      have H := Lib.hid h
      unfold ruV at C2 ⊢
      clear h1 h2 hV hL h
      go_enter Tryz.func47, Tryz.ntmps47
      go_wp2_with fail
      refine C1.out.mono ?_
      rintro e w' ⟨rfl, hb⟩
      have HB : Hid (Below w.heap.size w w') := hb0.trans (hb.mono (by simp))
      have HO := Lib.hid (hO.below hb)
      have c0 := HO.out.cell 0
      have c1 := HO.out.cell 1
      have c2 := HO.out.cell 2
      have c3 := HO.out.cell 3
      have c4 := HO.out.cell 4
      have c5 := HO.out.cell 5
      clear hb hO
      go_wp2_with fail
      refine (C2.out _ HB.out).mono ?_
      rintro e w2 ⟨rfl, hb⟩
      have HB2 : Hid (Below w.heap.size w w2) := HB.out.trans (hb.mono HB.out.size)
      have c4' := (HO.out.below hb).cell 4
      clear hb c0 c1 c2 c3 c4 c5
      have C3 := Lib.hid (everyLt_any B d r.body 8 w2 (HV.out.below HB2.out).row (HL.out.below HB2.out))
      go_wp2_with fail
      refine C3.out.mono ?_
      rintro e w3 ⟨rfl, hb⟩
      have HB3 : Hid (Below w.heap.size w w3) := HB2.out.trans (hb.mono HB2.out.size)
      clear hb
      have hl : decide ((r.body.length : Int) ≤ 8) = decide (r.body.length ≤ 8) := by congr 1; exact propext ⟨fun h => by omega, fun h => by omega⟩
      rw [hl, H.out]
      clear hl
      go_wp2_with fail
      go_ret
      exact ⟨rfl, HB3.out⟩

end Go.Proofs.YtikohamfnnlhcaaGreatDoor
