/- The law's measure of a program. Conditions: texts of at most 2^47 bytes. -/
import Derived.Test.YtikohamfnnlhcaaGreatDoorPcTermD
set_option linter.unusedVariables false
set_option linter.unusedSimpArgs false
namespace Go.Proofs.YtikohamfnnlhcaaGreatDoor
open Go.RowKit Go.Deep Go.Shelf

set_option maxRecDepth 100000 in
set_option maxHeartbeats 1000000 in
theorem Size_any (p : TPg) (A : Option Addr) (c : Nat) (B : Option Addr) (d : Nat) (l : Int) (w : World) (hV : PgV w p A B) (hl1 : 0 ≤ l) (hl2 : l ≤ 2000) :
    Calls Tryz.prog 7 #[pgV p A c B d, .int .i64 l] w fun r w' => r = .returned (.int .i64 (leftPg p l)) ∧ Below w.heap.size w w' := by
  have HV := Lib.hid hV
  have hlen := hV.decls.1
  have hlen2 := hV.rules.1
  have hO : Own (w.alloc (.cells #[.slice A p.decls.length c, .slice B p.rules.length d] 25)) w.heap.size 25 [.slice A p.decls.length c, .slice B p.rules.length d] := heap_alloc_new _ _
  have hb0 : Below w.heap.size w (w.alloc (.cells #[.slice A p.decls.length c, .slice B p.rules.length d] 25)) := (Below.refl _ _).alloc (Nat.le_refl _) _
  have HB0 := Lib.hid hb0
  have HP : Hid (leftPg p l = if leftDs p.decls l < 0 then -1 else leftRs p.rules (leftDs p.decls l)) := rfl
  unfold pgV
  clear hV hb0
  obtain ⟨W0, hW0⟩ : ∃ W0, W0 = w.alloc (.cells #[.slice A p.decls.length c, .slice B p.rules.length d] 25) := ⟨_, rfl⟩
  rw [← hW0] at hO HB0
  have HO := Lib.hid hO
  have HW0 := Lib.hid hW0
  clear hO hW0
  go_enter Tryz.func7, Tryz.ntmps7
  go_wp2_with fail
  rw [← HW0.out]
  go_loopw [1, 12] (fun lv i wr => ∃ (j : Nat) (x : Int), j ≤ p.decls.length ∧ i = .int .i64 j ∧ lv = .int .i64 x ∧ 0 ≤ x ∧ x ≤ 2000 ∧ Hid (leftDs (p.decls.drop j) x = leftDs p.decls l) ∧ Hid (Below W0.heap.size W0 wr)) (fun _ i _ => p.decls.length - (intOf i).toNat)
  case atStart => exact ⟨0, l, Nat.zero_le _, rfl, rfl, hl1, hl2, Lib.hid rfl, Lib.hid (Below.refl _ _)⟩
  case round =>
    obtain ⟨j, x, hj, rfl, rfl, h1, h2, HX, HB⟩ := hrel
    by_cases hlt : j < p.decls.length
    · obtain ⟨b, o, rfl, hbw, hc⟩ := HV.out.decls.at_ hlt
      have hc := hc.pers (Pers.of (HB0.out.trans (HB.out.mono HB0.out.size)))
      obtain ⟨c0, ⟨AA, ac, c1, hrow⟩, c2, hok⟩ := hc
      have hkl := hrow.1
      by_cases h0 : x - dcost p.decls[j] < 0
      · have HN := Lib.hid ((leftDs_neg hlt h0).symm.trans HX.out)
        have HF : Hid (-1 = leftPg p l) := by show _ = _; rw [HP.out, ← HN.out]; rfl
        clear HX hrow
        generalize p.decls[j] = y at *
        have hy : x - (1 + (y.rel.size : Int) / 50 + (y.kinds.length : Int)) < 0 := h0
        clear h0
        go_wp2_with fail
        go_ret
        exact ⟨ret_i64 HF.out, (HB0.out.trans (HB.out.mono HB0.out.size)).alloc (Nat.le_trans HB0.out.size HB.out.size) _⟩
      · have HN := Lib.hid ((leftDs_step hlt h0).symm.trans HX.out)
        clear HX hrow
        generalize p.decls[j] = y at *
        have hy : ¬ x - (1 + (y.rel.size : Int) / 50 + (y.kinds.length : Int)) < 0 := h0
        have hy2 : 0 ≤ x - (1 + (y.rel.size : Int) / 50 + (y.kinds.length : Int)) := by omega
        have hy3 : x - (1 + (y.rel.size : Int) / 50 + (y.kinds.length : Int)) ≤ 2000 := by omega
        clear h0
        go_wp2_with fail
        go_roundw
        case rel => exact ⟨j + 1, _, by omega, by go_num, rfl, hy2, hy3, HN, Lib.hid (HB.out.alloc HB.out.size _)⟩
        case measure => simp [intOf]; omega
    · have HN := Lib.hid ((leftDs_end hlt).symm.trans HX.out)
      have HQ : Hid (leftPg p l = leftRs p.rules x) := by show _ = _; rw [HP.out, ← HN.out, if_neg (by omega)]
      clear HX HN HP
      have HB1 : Hid (Below w.heap.size w wr) := HB0.out.trans (HB.out.mono HB0.out.size)
      have c1 := (HO.out.below HB.out).cell 1
      have q1 := (HO.out.below HB.out).lt
      simp only [List.getElem?_cons_zero, List.getElem?_cons_succ] at c1
      go_wp2_with fail
      clear c1 q1
      go_loopw [1, 33] (fun lv i wr => ∃ (k : Nat) (x : Int), k ≤ p.rules.length ∧ i = .int .i64 k ∧ lv = .int .i64 x ∧ 0 ≤ x ∧ x ≤ 2000 ∧ Hid (leftRs (p.rules.drop k) x = leftPg p l) ∧ Hid (Below w.heap.size w wr)) (fun _ i _ => p.rules.length - (intOf i).toNat)
      case atStart => exact ⟨0, x, Nat.zero_le _, rfl, rfl, h1, h2, Lib.hid HQ.out.symm, HB1⟩
      case round =>
        obtain ⟨k, x, hk, rfl, rfl, h1, h2, HX, HB⟩ := hrel
        by_cases hlt : k < p.rules.length
        · obtain ⟨b, o, rfl, hbw, hc⟩ := HV.out.rules.at_ hlt
          have hc := hc.pers (Pers.of HB.out)
          obtain ⟨AA, ac, BB, bc, c0, c1, c2, c3, c4, c5, hy⟩ := hc.open_
          have HY := Lib.hid hy
          have HU : Hid (0 ≤ leftRu p.rules[k] (x - 1) → leftRu p.rules[k] (x - 1) ≤ 2000) := fun h => by have := leftRu_cnt h; omega
          by_cases h0 : leftRu p.rules[k] (x - 1) < 0
          · have HN := Lib.hid ((leftRs_neg hlt h0).symm.trans HX.out)
            clear HX hc hy
            generalize p.rules[k] = y at *
            have C := Lib.hid (Rule_any y AA ac BB bc (x - 1) _ (HY.out.below ((Below.refl wr.heap.size wr).alloc (o := .cells #[.string y.head.rel, .slice AA y.head.args.length ac, .int .i64 y.agg, .int .i64 y.col, .slice BB y.body.length bc, .int .i64 y.pos] 52) (Nat.le_refl _))) (by omega) (by omega))
            generalize leftRu y (x - 1) = z at *
            go_wp2_with fail
            refine C.out.mono ?_
            rintro e w2 ⟨rfl, hb⟩
            have HB2 : Hid (Below w.heap.size w w2) := (HB.out.alloc HB.out.size _).trans (hb.mono (by simp; have := HB.out.size; omega))
            clear hb
            go_wp2_with fail
            go_ret
            exact ⟨ret_i64 HN.out, HB2.out⟩
          · have HN := Lib.hid ((leftRs_step hlt h0).symm.trans HX.out)
            have hu := HU.out (by omega)
            clear HX hc hy
            generalize p.rules[k] = y at *
            have C := Lib.hid (Rule_any y AA ac BB bc (x - 1) _ (HY.out.below ((Below.refl wr.heap.size wr).alloc (o := .cells #[.string y.head.rel, .slice AA y.head.args.length ac, .int .i64 y.agg, .int .i64 y.col, .slice BB y.body.length bc, .int .i64 y.pos] 52) (Nat.le_refl _))) (by omega) (by omega))
            generalize leftRu y (x - 1) = z at *
            go_wp2_with fail
            refine C.out.mono ?_
            rintro e w2 ⟨rfl, hb⟩
            have HB2 : Hid (Below w.heap.size w w2) := (HB.out.alloc HB.out.size _).trans (hb.mono (by simp; have := HB.out.size; omega))
            clear hb
            go_wp2_with fail
            go_roundw
            case rel => exact ⟨k + 1, z, by omega, by go_num, rfl, by omega, hu, HN, HB2⟩
            case measure => simp [intOf]; omega
        · have HN := Lib.hid ((leftRs_end hlt).symm.trans HX.out)
          clear HX
          go_wp2_with fail
          go_ret
          exact ⟨ret_i64 HN.out, HB.out⟩
end Go.Proofs.YtikohamfnnlhcaaGreatDoor
