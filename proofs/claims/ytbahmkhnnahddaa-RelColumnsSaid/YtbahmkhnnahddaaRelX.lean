/- Same. Conditions: at most 2000 tuples. -/
import Derived.Test.YtbahmkhnnahddaaRelW
namespace Go.Proofs.Ytbahmkhnnahddaa
open Go.RowKit Go.Deep Go.Shelf

def sameL : List (List V3) → List (List V3) → Bool
  | [], [] => true
  | x :: L, y :: M => decide (cmpT x y = 0) && sameL L M
  | _, _ => false
theorem same_iff : ∀ {L M : List (List V3)}, sameL L M = true ↔ L = M
  | [], [] => by simp [sameL]
  | [], _ :: _ => by simp [sameL]
  | _ :: _, [] => by simp [sameL]
  | x :: L, y :: M => by
    simp only [sameL, Bool.and_eq_true, decide_eq_true_eq, same_iff, List.cons.injEq]
    constructor
    · rintro ⟨h, h2⟩
      exact ⟨cmpT_eq h, h2⟩
    · rintro ⟨rfl, h2⟩
      exact ⟨cmpT_self x, h2⟩
theorem same_self (L : List (List V3)) : sameL L L = true := same_iff.2 rfl
theorem same_step {ts ts' : List TV} {k : Nat} (hk : k < ts.length) (hk' : k < ts'.length) : sameL (lists (ts.drop k)) (lists (ts'.drop k)) = (decide (cmpT ts[k].2.2 ts'[k].2.2 = 0) && sameL (lists (ts.drop (k + 1))) (lists (ts'.drop (k + 1)))) := by
  rw [List.drop_eq_getElem_cons hk, List.drop_eq_getElem_cons hk']
  rfl
theorem same_len {L M : List (List V3)} (h : L.length ≠ M.length) : sameL L M = false := by
  cases hs : sameL L M with
  | false => rfl
  | true => exact absurd (by rw [same_iff.1 hs]) h

set_option maxRecDepth 100000 in
set_option maxHeartbeats 400000 in
theorem cmp0_any (x y : TV) (hx : x.2.2.length ≤ maxLen) (hy : y.2.2.length ≤ maxLen) (w : World) (hr : Row w x.1 x.2.2) (hr' : Row w y.1 y.2.2) :
    Calls Try.prog 54 #[tval x, tval y] w fun e w' => e = .returned (.bool (decide (cmpT x.2.2 y.2.2 = 0))) ∧ Below w.heap.size w w' := by
  obtain ⟨X, xc, xl⟩ := x
  obtain ⟨Y, yc, yl⟩ := y
  have HC := Lib.hid (CompareT_any X Y xc yc xl yl hx hy w hr hr')
  clear hr hr' hx hy
  simp only
  generalize cmpT xl yl = r at HC ⊢
  go_enter Try.func54, Try.ntmps54
  go_wp2_with fail
  refine HC.out.mono ?_
  rintro e w1 ⟨rfl, b1⟩
  go_wp2
  go_ret
  refine ⟨ret_bool ?_, b1⟩
  by_cases h : r = 0 <;> simp [h]

set_option maxRecDepth 100000 in
set_option maxHeartbeats 400000 in
theorem EqualF_any (A A' : Option Addr) (c c' : Nat) (ts ts' : List TV) (w : World) (hl : Lst [] w A ts) (hl' : Lst [] w A' ts') (hf : Fits ts) (hf' : Fits ts') (hn : ts.length ≤ 2000) (_hn' : ts'.length ≤ 2000) :
    Calls Try.prog 53 #[.slice A ts.length c, .slice A' ts'.length c', .func (.func 54) #[] #[]] w fun e w' => e = .returned (.bool (sameL (lists ts) (lists ts'))) ∧ Below w.heap.size w w' := by
  have HL := Lib.hid hl
  have HL' := Lib.hid hl'
  have HF := Lib.hid hf
  have HF' := Lib.hid hf'
  clear hl hl' hf hf'
  by_cases hne : ts.length = ts'.length
  · obtain ⟨n, hn1⟩ : ∃ n, ts.length = n := ⟨_, rfl⟩
    have hn2 : ts'.length = n := by omega
    have HN1 := Lib.hid hn1
    have HN2 := Lib.hid hn2
    rw [hn1, hn2]
    rw [hn1] at hn
    clear hne hn1 hn2 _hn'
    go_enter Try.func53, Try.ntmps53
    go_wp2
    go_loopw [17] (fun ix wr => ∃ k : Nat, k ≤ n ∧ ix = .int .i64 k ∧ Hid (sameL (lists ts) (lists ts') = sameL (lists (ts.drop k)) (lists (ts'.drop k))) ∧ Hid (Below w.heap.size w wr)) (fun ix _ => n - (intOf ix).toNat)
    case atStart => exact ⟨0, Nat.zero_le _, rfl, rfl, Below.refl _ _⟩
    case round =>
      obtain ⟨k, hk, rfl, HI, HB⟩ := hrel
      by_cases hlt : k < n
      · have l1 : k < ts.length := by have := HN1.out; omega
        have l2 : k < ts'.length := by have := HN2.out; omega
        obtain ⟨g, o, rfl, hgw, _, hc, hr⟩ := HL.out.at_ l1
        obtain ⟨g', o', rfl, hgw', _, hc', hr'⟩ := HL'.out.at_ l2
        have hc := (HB.out.cell (p := ⟨g, o + k, none⟩) hgw).trans hc
        have hc' := (HB.out.cell (p := ⟨g', o' + k, none⟩) hgw').trans hc'
        have HC := Lib.hid (cmp0_any ts[k] ts'[k] (HF.out _ (List.getElem_mem l1)) (HF'.out _ (List.getElem_mem l2)) wr (hr.row.below HB.out) (hr'.row.below HB.out))
        have HS := Lib.hid (HI.out.trans (same_step l1 l2))
        have q1 : g < wr.heap.size := Nat.lt_of_lt_of_le hgw HB.out.size
        have q2 : g' < wr.heap.size := Nat.lt_of_lt_of_le hgw' HB.out.size
        clear HI hr hr' hgw hgw'
        generalize ts[k] = x at hc HC HS
        generalize ts'[k] = y at hc' HC HS
        obtain ⟨X, xc, xl⟩ := x
        obtain ⟨Y, yc, yl⟩ := y
        change wr.cell? ⟨g, o + k, none⟩ = some (.slice X xl.length xc) at hc
        change wr.cell? ⟨g', o' + k, none⟩ = some (.slice Y yl.length yc) at hc'
        simp only at HS HC
        generalize decide (cmpT xl yl = 0) = r at HS HC
        go_wp2_with fail
        refine HC.out.mono ?_
        rintro e w1 ⟨rfl, b1⟩
        have B1 := Lib.hid (HB.out.trans (b1.mono HB.out.size))
        clear b1 hc hc' HC
        cases r with
        | true =>
          have HQ : Hid (sameL (lists ts) (lists ts') = sameL (lists (ts.drop (k + 1))) (lists (ts'.drop (k + 1)))) := by
            have := HS.out
            rwa [Bool.true_and] at this
          clear HS
          go_wp2
          go_roundw
          case rel => exact ⟨k + 1, by omega, by go_num, HQ.out, B1.out⟩
          case measure => simp [intOf]; omega
        | false =>
          have HQ : Hid (sameL (lists ts) (lists ts') = false) := by
            have := HS.out
            rwa [Bool.false_and] at this
          clear HS
          go_wp2
          go_ret
          exact ⟨ret_bool HQ.out.symm, B1.out⟩
      · have HQ : Hid (sameL (lists ts) (lists ts') = true) := by
          have h1 := HI.out
          rw [List.drop_eq_nil_of_le (by have := HN1.out; omega), List.drop_eq_nil_of_le (by have := HN2.out; omega)] at h1
          exact h1
        go_wp2
        go_ret
        exact ⟨ret_bool HQ.out.symm, HB.out⟩
  · have HQ := Lib.hid (same_len (L := lists ts) (M := lists ts') (by simpa using hne))
    have hne1 : ((ts.length : Int) != (ts'.length : Int)) = true := by simp; omega
    clear hne
    go_enter Try.func53, Try.ntmps53
    go_wp2
    go_ret
    exact ⟨ret_bool HQ.out.symm, Below.refl _ _⟩

set_option maxRecDepth 100000 in
set_option maxHeartbeats 1000000 in
theorem Same_rel (b b' : Nat) (a : Int) (ts ts' : List TV) (S S' : List Nat) (w : World) (h : RelAt w b a ts S) (h' : RelAt w b' a ts' S') (hg : Good a (lists ts)) (hg' : Good a (lists ts')) :
    Calls Try.prog 30 #[rp b, rp b'] w fun e w' => e = .returned (.bool (sameL (lists ts) (lists ts'))) ∧ Below w.heap.size w w' := by
  obtain ⟨A, c, ho, _, hl, _⟩ := h.open_
  obtain ⟨A', c', ho', _, hl', _⟩ := h'.open_
  have h1 := ho.cell1
  have h1' := ho'.cell1
  have q1 := ho.lt
  have q1' := ho'.lt
  have HAl := Lib.hid (fun W (hb : Below w.heap.size w W) => alike_ok b b' a ts ts' S S' W (h.below hb) (h'.below hb))
  have HE := Lib.hid (fun W (hb : Below w.heap.size w W) => EqualF_any A A' c c' ts ts' W (hl.below hb) (hl'.below hb) hg.fits hg'.fits hg.len hg'.len)
  have HD := Lib.hid (Below.refl w.heap.size w).drew
  clear h h' hg hg' ho ho' hl hl'
  generalize sameL (lists ts) (lists ts') = q at HE ⊢
  have k1 : ∀ w, (binOp .eql 26 .nilIface .nilIface).run Try.prog w = .ok (.bool true) w := fun w => by kernel_rfl
  go_enter Try.func30, Try.ntmps30
  go_wp2_with fail
  go_region_with (first
    | (go_at_call 51; refine (HAl.out _ ?_).mono ?_; exact HD.out; rintro e w1 ⟨rfl, b1⟩; have HB := Lib.hid (HD.out.trans b1); have h11 := (HB.out.cell (p := ⟨b, 1, none⟩) q1).trans h1; have h12 := (HB.out.cell (p := ⟨b', 1, none⟩) q1').trans h1'; have q2 : b < w1.heap.size := Nat.lt_of_lt_of_le q1 HB.out.size; have q2' : b' < w1.heap.size := Nat.lt_of_lt_of_le q1' HB.out.size; clear b1)
    | (go_at_call 53; refine (HE.out _ ?_).mono ?_; exact HB.out; rintro e w2 ⟨rfl, b2⟩; have HB2 := Lib.hid (HB.out.trans (b2.mono HB.out.size)); clear b2))
  all_goals
    go_wp2
    go_ret
    exact ⟨rfl, HB2.out⟩
end Go.Proofs.Ytbahmkhnnahddaa
