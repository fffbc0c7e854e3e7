/- The iterator of a relation: what it yields, each in memory of its own. Conditions: at most 2000 tuples. -/
import Derived.Test.YtbahmkhnnahddaaRelS
import Derived.Shelf.Abstract
import Derived.OwnWalkIn
import Derived.TacticsInMore
import Derived.LoopNIn
import Derived.LoopIn
namespace Go.Proofs.Ytbahmkhnnahddaa
open Go.RowKit Go.Deep Go.Shelf
attribute [local go_sem] Oper.semAt_some

/-- what is known of a yield in its world. -/
def Yd (Z : List Nat) (B i N : Nat) (L : List (List V3)) (pre : List TV) (x : TV) (W : World) : Prop :=
  lists (pre ++ [x]) <+: L ∧ RowO (footL Z B i W) W x.1 x.2.2 ∧ (x.1 = none → x.2.1 = 0) ∧ B < W.heap.size ∧ ∀ g o, x.1 = some ⟨g, o, none⟩ → N ≤ g
theorem filter_step {p : List V3 → Bool} {ts : List TV} {k : Nat} (hk : k < ts.length) : (lists (ts.take (k + 1))).filter p = (lists (ts.take k)).filter p ++ (if p ts[k].2.2 then [ts[k].2.2] else []) := by
  rw [List.take_succ_eq_append_getElem hk, lists, List.map_append, List.filter_append]
  congr 1
  simp only [List.map_cons, List.map_nil, List.filter_cons, List.filter_nil]
theorem filter_pre {p : List V3 → Bool} {ts : List TV} {k : Nat} : (lists (ts.take k)).filter p <+: (lists ts).filter p := by
  have : lists ts = lists (ts.take k) ++ lists (ts.drop k) := by rw [← List.map_append, List.take_append_drop]
  rw [this, List.filter_append]
  exact List.prefix_append _ _

set_option maxRecDepth 100000 in
set_option maxHeartbeats 2000000 in
theorem those_in (n : Nat) (hn : 1 ≤ n) (l : Nat) (Z : List Nat) (B i N br bw g : Nat) (rv : Value) (pa ca : Array Value) (A : Option Addr) (c : Nat) (ts : List TV) (p : List V3 → Bool) (J Jx : List TV → World → Prop) (W : World)
    (hN : N ≤ W.heap.size) (hB : B < W.heap.size) (hbr : W.cell? ⟨br, 0, none⟩ = some rv) (hbw : W.cell? ⟨bw, 0, none⟩ = some (.func (.func g) pa ca)) (hbwF : bw ∉ footL Z B i W)
    (hlist : ∀ W', Below W.heap.size W W' → Calls Try.prog 60 #[rv] W' fun e w' => e = .returned (.slice A ts.length c) ∧ W' = w')
    (hA : A = none → c = 0) (hl : Lst [] W A ts) (hrows : ∀ t ∈ ts, RowO (footL Z B i W) W t.1 t.2.2 ∧ (t.1 = none → t.2.1 = 0) ∧ t.2.2.length ≤ 100) (hlen : ts.length ≤ 2000) (hfl : ∀ k ∈ footL Z B i W, k < W.heap.size)
    (eg : ∀ args w, (callFunc g args).run Try.prog w = .ok (.enter g args) w)
    (hwant : ∀ t W', t ∈ ts → Kf Z B i W W' → Row W' t.1 t.2.2 → Calls Try.prog g (pa.push (tval t) ++ ca) W' fun e w' => e = .returned (.bool (p t.2.2)) ∧ Below W'.heap.size W' w')
    (hJ : ∀ s X Y, J s X → Below X.heap.size X Y → J s Y) (hJx : ∀ s X Y, Jx s X → Below X.heap.size X Y → Jx s Y)
    (hY : ∀ pre x W1, J pre W1 → Yd Z B i N ((lists ts).filter p) pre x W1 → YieldAt Fence.wide (n - 1) Try.prog l #[tval x] W1 fun e W' =>
      (e = .returned (.bool true) ∧ J (pre ++ [x]) W' ∧ Kf Z B i W1 W') ∨ (e = .returned (.bool false) ∧ Jx (pre ++ [x]) W'))
    (h0 : J [] W) :
    CallsIn Fence.wide n Try.prog 75 #[.func (.yield l) #[] #[], .pointer (some ⟨br, 0, none⟩), .pointer (some ⟨bw, 0, none⟩)] W fun e W' => (∃ v, e = .returned v) ∧
      ((∃ xs, lists xs = (lists ts).filter p ∧ J xs W') ∨ (∃ pre, lists pre <+: (lists ts).filter p ∧ Jx pre W')) := by
  have HL := Lib.hid hl
  have HR := Lib.hid hrows
  have HW := Lib.hid hwant
  have HLi := Lib.hid hlist
  have HY := Lib.hid hY
  have HJ := Lib.hid hJ
  have HJx := Lib.hid hJx
  have HFL := Lib.hid hfl
  have H0 := Lib.hid h0
  clear hl hrows hwant hlist hY hJ hJx hfl h0
  have h75 : Fence.wide.fn 75 := trivial
  have h60 : Fence.wide.fn 60 := trivial
  have h76 : Fence.wide.fn 76 := trivial
  have h44 : Fence.wide.fn 44 := trivial
  have hg : Fence.wide.fn g := trivial
  refine callsIn_of_wp Try.func75 rfl h75 ?_ rfl
  simp only [Try.ntmps75, List.size_toArray, List.length_cons, List.length_nil, Nat.reduceAdd, Nat.reduceSub, Array.replicate_succ, Array.replicate_zero, List.push_toArray, List.append_toArray, List.nil_append, List.cons_append]
  gi_wp2_with fail
  refine (callsIn_wide.2 (HLi.out _ (Below.refl _ _))).mono ?_
  rintro e w1 ⟨rfl, rfl⟩
  gi_wp2_with fail
  refine (callsIn_wide.2 (Clone_any A c ts _ hA HL.out hlen)).mono ?_
  rintro e w1 ⟨A', c', rfl, hnew, hcs, b1⟩
  have K1 : Kf Z B i W w1 := Kf.of_below b1 hB
  have HC : Hid (0 < ts.length → ∃ g o, A' = some ⟨g, o, none⟩ ∧ g ∉ footL Z B i w1 ∧ ∀ (i : Nat) t, ts[i]? = some t → w1.cell? ⟨g, o + i, none⟩ = some (tval t)) := fun h => by
    obtain ⟨g, o, e, _, hc⟩ := hcs h
    refine ⟨g, o, e, fun hm => ?_, hc⟩
    have h2 := hnew g o e
    rw [foot_same (b1.cell (p := ⟨B, i, none⟩) hB)] at hm
    have := HFL.out g hm
    omega
  have HK1 := Lib.hid K1
  have HJ1 := Lib.hid (HJ.out _ _ _ H0.out b1)
  clear hnew hcs b1 K1 H0 HLi HL hA
  gi_wp2_with fail
  gi_loopw [10] (fun ix wr => ∃ (k : Nat) (pre : List TV), k ≤ ts.length ∧ ix = .int .i64 k ∧ Hid (lists pre = (lists (ts.take k)).filter p) ∧ Hid (J pre wr) ∧ Hid (Kf Z B i w1 wr)) (fun ix _ => ts.length - (intOf ix).toNat)
  case atStart => exact ⟨0, [], Nat.zero_le _, rfl, rfl, HJ1.out, Kf.refl _⟩
  case round =>
    obtain ⟨k, pre, hk, rfl, HP, HJr, HK⟩ := hrel
    by_cases hlt : k < ts.length
    · obtain ⟨gc, o, rfl, hgc, hcc⟩ := HC.out (by omega)
      have hc := HK.out.cell (hcc k _ (List.getElem?_eq_getElem hlt)) hgc
      have hKW := HK1.out.trans HK.out
      have hbw' := hKW.cell hbw hbwF
      obtain ⟨hr0, hnn, hll⟩ := HR.out _ (List.getElem_mem hlt)
      have hr1 := hr0.kf hKW
      have hwt := HW.out ts[k] wr (List.getElem_mem hlt) hKW hr1.row
      have HSt := Lib.hid (filter_step (p := p) hlt)
      have HPre := Lib.hid (filter_pre (p := p) (ts := ts) (k := k + 1))
      generalize ts[k] = t at hc hnn hll hr1 hwt HSt
      obtain ⟨T, tc, tl⟩ := t
      change wr.cell? ⟨gc, o + k, none⟩ = some (.slice T tl.length tc) at hc
      simp only at hnn hll hr1 HSt
      have hgcl : gc < wr.heap.size := World.block_lt_of_cell? wr _ hc
      have hbwl : bw < wr.heap.size := World.block_lt_of_cell? wr _ hbw'
      have hBl : B < wr.heap.size := Nat.lt_of_lt_of_le hB hKW.size
      have HWt := Lib.hid hwt
      have HR1 := Lib.hid hr1
      clear hr0 hwt hr1 hcc
      gi_wp2_with fail
      refine (callsIn_wide.2 HWt.out).mono ?_
      rintro e w2 ⟨rfl, b2⟩
      have HJ2 := Lib.hid (HJ.out _ _ _ HJr.out b2)
      have HB2 := Lib.hid b2
      have HK2 := Lib.hid (HK.out.trans (Kf.of_below b2 hBl))
      clear b2 HWt HJr hc
      by_cases hp : p tl = true
      · have HS2 : Hid ((lists (ts.take (k + 1))).filter p = (lists (ts.take k)).filter p ++ [tl]) := by
          have := HSt.out
          rw [if_pos hp] at this
          exact this
        have HCp := Lib.hid (Copy_new T tc tl hll hnn w2 (HR1.out.row.below HB2.out))
        have HFw : Hid (∀ k ∈ footL Z B i w2, k < w2.heap.size) := (Kf.trans (hKW) (Kf.of_below HB2.out hBl)).lt HFL.out
        have hB2l : B < w2.heap.size := Nat.lt_of_lt_of_le hBl HB2.out.size
        have HN2 : Hid (N ≤ w2.heap.size) := Nat.le_trans hN (Nat.le_trans hKW.size HB2.out.size)
        simp only [hp]
        clear HSt hp HR1 hnn hll
        gi_wp2_with fail
        refine (callsIn_wide.2 HCp.out).mono ?_
        rintro e w3 ⟨A3, c3, rfl, hn3, hr3, hnew3, b3⟩
        have hyd : Yd Z B i N ((lists ts).filter p) pre (A3, c3, tl) w3 := by
          refine ⟨?_, fun h0 => ?_, hn3, Nat.lt_of_lt_of_le hB2l b3.size, fun g o e => Nat.le_trans HN2.out (hnew3 g o e)⟩
          · have e : lists (pre ++ [((A3, c3, tl) : TV)]) = (lists (ts.take (k + 1))).filter p := by
              rw [HS2.out, ← HP.out]
              simp
            rw [e]
            exact HPre.out
          · obtain ⟨g3, o3, e3, hlt3, hc3⟩ := hr3 h0
            refine ⟨g3, o3, e3, hlt3, fun hm => ?_, hc3⟩
            rw [foot_same (b3.cell (p := ⟨B, i, none⟩) hB2l)] at hm
            have h5 := HFw.out g3 hm
            have h6 := hnew3 g3 o3 e3
            omega
        obtain ⟨fn, tmps, assign, body, hy, hR⟩ := HY.out pre (A3, c3, tl) w3 (HJ.out _ _ _ HJ2.out b3) hyd
        have HP3 : Hid (lists (pre ++ [((A3, c3, tl) : TV)]) = (lists (ts.take (k + 1))).filter p) := by
          show _ = _
          rw [HS2.out, ← HP.out]
          simp
        have HK3 := Lib.hid (HK2.out.trans (Kf.of_below b3 hB2l))
        have HPr3 := Lib.hid hyd.1
        change (Instr.yield l #[.slice A3 tl.length c3]).run Try.prog w3 = _ at hy
        clear hyd hn3 hr3 hnew3 b3 HCp HS2
        gi_wp2
        refine hR.mono ?_
        rintro e w4 (⟨rfl, hJ4, hk4⟩ | ⟨rfl, hJx4⟩)
        · have HJ4 := Lib.hid hJ4
          have HK4 := Lib.hid (HK3.out.trans hk4)
          clear hJ4 hk4 hy hR
          gi_wp2
          go_roundw
          case rel => exact ⟨k + 1, _, by omega, by go_num, HP3.out, HJ4.out, HK4.out⟩
          case measure => simp [intOf]; omega
        · have HJ4 := Lib.hid hJx4
          clear hJx4 hy hR
          gi_wp2
          refine bodyPost_ret (results_none rfl _ _ _) rfl ?_
          exact ⟨⟨_, rfl⟩, .inr ⟨_, HPr3.out, HJ4.out⟩⟩
      · have hp : p tl = false := by simpa using hp
        have HS2 : Hid ((lists (ts.take (k + 1))).filter p = (lists (ts.take k)).filter p) := by
          have := HSt.out
          rw [if_neg (by simp [hp]), List.append_nil] at this
          exact this
        simp only [hp]
        clear HSt hp HR1 hnn hll
        gi_wp2
        refine ⟨fun _ h => (by cases h), ?_⟩
        gi_wp2
        go_roundw
        case rel => exact ⟨k + 1, pre, by omega, by go_num, by rw [HS2.out]; exact HP.out, HJ2.out, HK2.out⟩
        case measure => simp [intOf]; omega
    · have HE : Hid (lists pre = (lists ts).filter p) := by
        have := HP.out
        rwa [List.take_of_length_le (by omega)] at this
      gi_wp2
      go_end0
      exact ⟨⟨_, rfl⟩, .inl ⟨_, HE.out, HJr.out⟩⟩
end Go.Proofs.Ytbahmkhnnahddaa
