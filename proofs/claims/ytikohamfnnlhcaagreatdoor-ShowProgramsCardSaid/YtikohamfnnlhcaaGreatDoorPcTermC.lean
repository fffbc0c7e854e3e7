/- The law's own measure: how much of a size is left. Conditions: texts of at most 2^47 bytes. -/
import Derived.Test.YtikohamfnnlhcaaGreatDoorPcTermB
import Derived.Deep.RegionHeld3
set_option linter.unusedVariables false
set_option linter.unusedSimpArgs false
namespace Go.Proofs.YtikohamfnnlhcaaGreatDoor
open Go.RowKit Go.Deep Go.Shelf

set_option maxRecDepth 100000 in
set_option maxHeartbeats 400000 in
theorem exp_any (n : Nat) : ∀ (e : TEx) (A : Option Addr) (c : Nat) (l : Int) (w : World), cntE e ≤ n → ExV w e A → -4611686018427387904 ≤ l → l ≤ 4611686018427387904 →
    Calls Tryz.prog 44 #[exV e A c, .int .i64 l] w fun r w' => r = .returned (.int .i64 (leftE e l)) ∧ Below w.heap.size w w' := by
  induction n with
  | zero => intro e _ _ _ _ h; have := cntE_pos e; omega
  | succ n ih =>
    intro e A c l w hn hV hl1 hl2
    have HV := Lib.hid hV
    have hlen := hV.row.1
    have hv1 := hV.ok.1
    have hv2 := hV.ok.2
    have htc := tcost_le hV.ok
    have htp := tcost_pos e.t
    have htc' : tcost e.t = 1 + ((e.t.v.size : Int) + (e.t.s.size : Int)) / 50 := rfl
    have HO := Lib.hid hV.okE
    have HE := Lib.hid (leftE_eq e l)
    have HK : Hid (∀ k (hk : k < e.kids.length), cntE e.kids[k] ≤ n) := fun k hk => by have := cntE_kid hk; omega
    have hx1 : -4611694814520410112 ≤ l - (1 + ((e.t.v.size : Int) + (e.t.s.size : Int)) / 50) := by omega
    have hx2 : l - (1 + ((e.t.v.size : Int) + (e.t.s.size : Int)) / 50) ≤ 4611686018427387904 := by omega
    have HT := Lib.hid htc'
    clear hV htc htp htc' hn
    unfold exV
    go_enter Tryz.func44, Tryz.ntmps44
    go_wp2_with fail
    go_loopw [1, 24] (fun lv i wr => ∃ (j : Nat) (x : Int), j ≤ e.kids.length ∧ i = .int .i64 j ∧ lv = .int .i64 x ∧ -4611694814520410112 ≤ x ∧ x ≤ 4611686018427387904 ∧ Hid (leftEs (e.kids.drop j) x = leftE e l) ∧ Hid (Below w.heap.size w wr)) (fun _ i _ => e.kids.length - (intOf i).toNat)
    case atStart =>
      exact ⟨0, _, Nat.zero_le _, rfl, rfl, hx1, hx2, (by rw [HE.out, HT.out, List.drop_zero]; exact Lib.hid rfl), Lib.hid ((Below.refl _ _).alloc (Nat.le_refl _) _)⟩
    case round =>
      obtain ⟨j, x, hj, rfl, rfl, h1, h2, HX, HB⟩ := hrel
      by_cases hlt : j < e.kids.length
      · obtain ⟨b, o, rfl, hbw, hc⟩ := HV.out.row.at_ hlt
        have hc := hc.pers (Pers.of HB.out)
        obtain ⟨A', c', c0, c1, c2, c3, c4, c5, hkv⟩ := hc.open_
        have HKV := Lib.hid hkv
        have hki := HK.out j hlt
        have HOj := Lib.hid (okEs_at hlt (by have h := HO.out; cases e; rw [okE] at h; exact h.2))
        by_cases h0 : x < 0
        · have HN := Lib.hid ((leftEs_neg hlt h0).symm.trans HX.out)
          clear hc hkv HX
          generalize e.kids[j] = y at *
          go_wp2_with fail
          go_ret
          exact ⟨ret_i64 HN.out, HB.out.alloc HB.out.size _⟩
        · have HN := Lib.hid ((leftEs_step hlt h0).symm.trans HX.out)
          have HLo := Lib.hid (leftE_lo e.kids[j] x 0 HOj.out (by omega) (by omega))
          have HUp := Lib.hid (leftE_up e.kids[j] x 4611686018427387904 (by omega) (by omega))
          clear hc hkv HX HOj
          generalize e.kids[j] = y at *
          go_wp2_with fail
          refine (ih y A' c' x _ hki (HKV.out.below ((Below.refl _ _).alloc (Nat.le_refl _) _)) (by omega) (by omega)).mono ?_
          rintro r w' ⟨rfl, hb⟩
          have HB' := Lib.hid ((HB.out.alloc HB.out.size _).trans (hb.mono (by simp; exact Nat.le_trans HB.out.size (Nat.le_succ _))))
          clear hb
          have hlo := HLo.out
          have hup := HUp.out
          go_wp2_with fail
          go_roundw
          case rel => exact ⟨j + 1, _, by omega, by go_num, rfl, by omega, by omega, HN, HB'⟩
          case measure => simp [intOf]; omega
      · have HN := Lib.hid ((leftEs_end hlt).symm.trans HX.out)
        clear HX
        go_wp2_with fail
        go_ret
        exact ⟨ret_i64 HN.out, HB.out⟩

set_option maxRecDepth 100000 in
set_option maxHeartbeats 400000 in
theorem atom_any (a : TAm) (A : Option Addr) (c : Nat) (l : Int) (w : World) (hV : AmV w a A) (hl1 : -4611686018427387904 ≤ l) (hl2 : l ≤ 4611686018427387904) :
    Calls Tryz.prog 43 #[amV a A c, .int .i64 l] w fun r w' => r = .returned (.int .i64 (leftAm a l)) ∧ Below w.heap.size w w' := by
  have HV := Lib.hid hV
  have hlen := hV.row.1
  have hv1 := hV.ok
  have HE : Hid (leftTs a.args (l - (1 + (a.rel.size : Int) / 50)) = leftAm a l) := rfl
  have hx1 : -4611694814520410112 ≤ l - (1 + (a.rel.size : Int) / 50) := by omega
  have hx2 : l - (1 + (a.rel.size : Int) / 50) ≤ 4611686018427387904 := by omega
  clear hV
  unfold amV
  go_enter Tryz.func43, Tryz.ntmps43
  go_wp2_with fail
  go_loopw [1, 17] (fun lv i wr => ∃ (j : Nat) (x : Int), j ≤ a.args.length ∧ i = .int .i64 j ∧ lv = .int .i64 x ∧ -4611694814520410112 ≤ x ∧ x ≤ 4611686018427387904 ∧ Hid (leftTs (a.args.drop j) x = leftAm a l) ∧ Hid (Below w.heap.size w wr)) (fun _ i _ => a.args.length - (intOf i).toNat)
  case atStart =>
    exact ⟨0, _, Nat.zero_le _, rfl, rfl, hx1, hx2, HE, Lib.hid ((Below.refl _ _).alloc (Nat.le_refl _) _)⟩
  case round =>
    obtain ⟨j, x, hj, rfl, rfl, h1, h2, HX, HB⟩ := hrel
    by_cases hlt : j < a.args.length
    · obtain ⟨b, o, rfl, hbw, hc⟩ := HV.out.row.at_ hlt
      have hc := hc.pers (Pers.of HB.out)
      obtain ⟨c0, c1, c2, c3, ht1, ht2⟩ := hc
      have ht := tcost_pos a.args[j]
      have hm := tcost_le ⟨ht1, ht2⟩
      by_cases h0 : x - tcost a.args[j] < 0
      · have HN := Lib.hid ((leftTs_neg hlt h0).symm.trans HX.out)
        clear HX
        generalize a.args[j] = y at *
        have hy : x - (1 + ((y.v.size : Int) + (y.s.size : Int)) / 50) < 0 := h0
        have hy1 : -4611720000000000000 ≤ x - (1 + ((y.v.size : Int) + (y.s.size : Int)) / 50) := by unfold tcost at hm; omega
        clear h0 hm ht
        go_wp2_with fail
        go_ret
        exact ⟨ret_i64 HN.out, HB.out.alloc HB.out.size _⟩
      · have HN := Lib.hid ((leftTs_step hlt h0).symm.trans HX.out)
        clear HX
        generalize a.args[j] = y at *
        have hy : ¬ x - (1 + ((y.v.size : Int) + (y.s.size : Int)) / 50) < 0 := h0
        have hy2 : x - (1 + ((y.v.size : Int) + (y.s.size : Int)) / 50) ≤ 4611686018427387904 := by unfold tcost at ht; omega
        clear h0 hm ht
        go_wp2_with fail
        go_roundw
        case rel => exact ⟨j + 1, _, by omega, by go_num, rfl, by omega, by omega, HN, Lib.hid (HB.out.alloc HB.out.size _)⟩
        case measure => simp [intOf]; omega
    · have HN := Lib.hid ((leftTs_end hlt).symm.trans HX.out)
      clear HX
      go_wp2_with fail
      go_ret
      exact ⟨ret_i64 HN.out, HB.out⟩
end Go.Proofs.YtikohamfnnlhcaaGreatDoor
