/- slices.Grow at nil, slices.Concat and tuple.Join at tuples. Conditions: at most six values together. -/
import Derived.Test.YteamogdbhoajkaaDoorTupU
import Derived.Lib.AppendZerosOnto
import Derived.Lib.SliceRun
namespace Go.Proofs.YteamogdbhoajkaaDoor
open Go.RowKit Go.Deep

/-- a slice of the call's own, nothing in it yet. -/
def GrowPost (w : World) (e : Ending) (w' : World) : Prop :=
  ∃ A c, e = .returned (.slice A 0 c) ∧ w'.ownsRow w.heap.size 30 3 (.slice A 0 c) 0 [] ∧ Below w.heap.size w w'

set_option maxRecDepth 100000 in
set_option maxHeartbeats 400000 in
theorem Grow_any (n : Nat) (h6 : n ≤ 6) (w : World) :
    Calls Tryd.prog 58 #[.slice none 0 0, .int .i64 n] w fun e w' => GrowPost w e w' := by
  rcases Nat.eq_zero_or_pos n with h0 | h0
  · subst h0
    go_enter Tryd.func58, Tryd.ntmps58
    go_wp2
    go_ret
    exact ⟨none, 0, rfl, World.ownsRow_nil _ _ _ _, Below.refl _ _⟩
  · obtain ⟨i, hi, hz, hs, hb⟩ := info_parts infoVal
    have hold : (Builtin.firstCells i.size 0 (.slice none 0 0)).run Tryd.prog w.drew = .ok ([] : List Value).toArray w.drew := run_firstCells_none w.drew i.size 0 0 0
    have hrz : ∀ ty, (Builtin.append_ #[23, 3] ty #[.slice none 0 0, .int .i64 (n : Int)]).run Tryd.prog w =
        .ok (.slice (some ⟨w.heap.size, 0, none⟩) n (grownCap w n 0 30)) (w.drew.alloc (.cells (([] : List Value).toArray ++ Builtin.zeroCells (Value.agg #[.int .i64 0, .int .i64 0, .string noText]).cells n ++ Builtin.zeroCells (Value.agg #[.int .i64 0, .int .i64 0, .string noText]).cells (grownCap w n 0 30 - n)) 30)) := fun ty => by
      have h := Lib.run_append_grow_zeros w 23 3 ty 30 i _ .i64 .i64 Tryd.underlying23 Tryd.underlying3 hi hz none 0 0 [] hold n (by omega) (by omega) (by omega) (by omega)
        (by rw [hb]; omega) (growslice_fits (by omega) (by rw [hb]; omega))
      simpa using h
    have hG := grownCap_ge w n 0 30
    have hGm := grownCap_le_maxLen w n 0 30 (by unfold maxLen; omega)
    have hsz : (([] : List Value).toArray ++ Builtin.zeroCells (Value.agg #[.int .i64 0, .int .i64 0, .string noText]).cells n ++ Builtin.zeroCells (Value.agg #[.int .i64 0, .int .i64 0, .string noText]).cells (grownCap w n 0 30 - n)).size = grownCap w n 0 30 * 3 := by
      have e3 : (Value.agg #[.int .i64 0, .int .i64 0, .string noText]).cells.size = 3 := rfl
      simp only [Array.size_append, List.size_toArray, List.length_nil, size_zeroCells, e3]
      omega
    generalize (([] : List Value).toArray ++ Builtin.zeroCells (Value.agg #[.int .i64 0, .int .i64 0, .string noText]).cells n ++ Builtin.zeroCells (Value.agg #[.int .i64 0, .int .i64 0, .string noText]).cells (grownCap w n 0 30 - n)) = cur at hsz hrz
    generalize grownCap w n 0 30 = G at hsz hrz hG hGm
    have HO : Hid ((w.drew.alloc (.cells cur 30)).ownsRow w.heap.size 30 3 (.slice (some ⟨w.heap.size, 0, none⟩) 0 G) 0 []) :=
      ⟨rfl, .inr ⟨w.heap.size, G, cur, rfl, Nat.le_refl _, heap_alloc_new w.drew _, Nat.zero_le _, hGm, hsz, rfl⟩⟩
    have HB : Hid (Below w.heap.size w (w.drew.alloc (.cells cur 30))) := (Below.refl _ _).drew.alloc (Nat.le_refl _) _
    generalize w.drew.alloc (.cells cur 30) = w2 at hrz HO HB
    unfold maxLen at hGm
    clear hsz hold hi hz hs hb
    have h00 : (0 : Int) < (n : Int) := by omega
    go_enter Tryd.func58, Tryd.ntmps58
    go_wp2_with (at_builtin; refine Lib.wpList_append_run _ rfl _ _ _ _ rfl _ _ rfl rfl _ _ (hrz _) ?_)
    go_ret
    exact ⟨some ⟨w.heap.size, 0, none⟩, G, rfl, HO.out, HB.out⟩

/-- the values of several tuples, one behind the other. -/
def allT (ts : List TV) : List V3 := (ts.map fun t => t.2.2).flatten
theorem all_snoc {ts : List TV} {k : Nat} (hk : k < ts.length) : allT (ts.take (k + 1)) = allT (ts.take k) ++ ts[k].2.2 := by
  unfold allT
  rw [List.take_succ_eq_append_getElem hk, List.map_append, List.flatten_append]
  simp only [List.map_cons, List.map_nil, List.flatten_cons, List.flatten_nil, List.append_nil]
theorem all_take (ts : List TV) (k : Nat) : (allT (ts.take k)).length ≤ (allT ts).length := by
  have h : allT ts = allT (ts.take k) ++ allT (ts.drop k) := by
    unfold allT
    rw [← List.flatten_append, ← List.map_append, List.take_append_drop]
  rw [h, List.length_append]
  omega

set_option maxRecDepth 100000 in
set_option maxHeartbeats 1000000 in
theorem Concat_any (B cap : Nat) (ts : List TV) (hn : ts.length ≤ 10) (h6 : (allT ts).length ≤ 6) (w : World) (hB : B < w.heap.size) (hcells : ∀ j t, ts[j]? = some t → w.cell? ⟨B, j, none⟩ = some (tval t))
    (hrows : ∀ t ∈ ts, Row w t.1 t.2.2 ∧ (t.1 = none → t.2.1 = 0)) :
    Calls Tryd.prog 43 #[.slice (some ⟨B, 0, none⟩) ts.length cap] w fun e w' => GotT w (allT ts) e w' := by
  have HC := Lib.hid hcells
  have HR := Lib.hid hrows
  have H6 := Lib.hid (fun k => Nat.le_trans (all_take ts k) h6)
  clear hcells hrows
  go_enter Tryd.func43, Tryd.ntmps43
  go_wp2
  go_loop [3, 11] (fun n i => ∃ j : Nat, j ≤ ts.length ∧ i = .int .i64 j ∧ (∃ m : Nat, n = .int .i64 m ∧ m ≤ 6 ∧ Hid (m = (allT (ts.take j)).length))) (fun _ i => ts.length - (intOf i).toNat)
  case atStart => exact ⟨0, Nat.zero_le _, rfl, ⟨0, rfl, by omega, rfl⟩⟩
  case round =>
    obtain ⟨j, hj, rfl, ⟨m, rfl, hm6, HM⟩⟩ := hrel
    by_cases hlt : j < ts.length
    · have HS := Lib.hid (all_snoc hlt)
      have hcell := HC.out j _ (List.getElem?_eq_getElem hlt)
      have h6' := H6.out (j + 1)
      rw [HS.out, List.length_append, ← HM.out] at h6'
      have HQ : Hid (m + ts[j].2.2.length = (allT (ts.take (j + 1))).length) := by
        show _ = _
        rw [HS.out, List.length_append, ← HM.out]
      clear HS
      generalize ts[j] = t at hcell h6' HQ
      obtain ⟨A, c, l⟩ := t
      change w.cell? ⟨B, j, none⟩ = some (.slice A l.length c) at hcell
      simp only at h6'
      go_wp2
      go_round
      case rel => exact ⟨j + 1, by omega, by go_num, ⟨m + l.length, by go_num, h6', HQ.out⟩⟩
      case measure => simp [intOf]; omega
    · have hjl : j = ts.length := by omega
      have HQ : Hid (m = (allT ts).length) := by
        have := HM.out
        rw [hjl, List.take_length] at this
        exact this
      clear HM
      go_wp2_with fail
      refine (Grow_any m hm6 _).mono ?_
      rintro e w1 ⟨A0, c0, rfl, ho, hb⟩
      have HO := Lib.hid ho
      have HB := Lib.hid hb
      clear ho hb
      go_wp2_with fail
      go_loopw [6, 27] (fun v i wr => ∃ k : Nat, k ≤ ts.length ∧ i = .int .i64 k ∧ (∃ A' c', v = .slice A' (allT (ts.take k)).length c' ∧ Hid (wr.ownsRow w.heap.size 30 3 (.slice A' (allT (ts.take k)).length c') (allT (ts.take k)).length (flat (allT (ts.take k))))) ∧ Hid (Below w.heap.size w wr)) (fun _ i _ => ts.length - (intOf i).toNat)
      case atStart => exact ⟨0, Nat.zero_le _, rfl, ⟨A0, c0, rfl, HO.out⟩, HB.out⟩
      case round =>
        obtain ⟨k, hk, rfl, ⟨A', c', rfl, HOk⟩, HBk⟩ := hrel
        by_cases hltk : k < ts.length
        · have HS := Lib.hid (all_snoc hltk)
          have hcell := HC.out k _ (List.getElem?_eq_getElem hltk)
          have hrow := HR.out ts[k] (List.getElem_mem hltk)
          have h6' := H6.out (k + 1)
          rw [HS.out] at h6'
          generalize ts[k] = t at hcell HS hrow h6'
          obtain ⟨A, c, l⟩ := t
          have hcell := (HBk.out.cell hB).trans hcell
          change wr.cell? ⟨B, k, none⟩ = some (.slice A l.length c) at hcell
          have HRow := Lib.hid (hrow.1.below HBk.out)
          have HNil := Lib.hid hrow.2
          rw [List.length_append] at h6'
          simp only at h6'
          have HSZ := Lib.hid HBk.out.size
          generalize allT (ts.take k) = L at HOk HS h6'
          clear hrow
          go_wp2_with (at_builtin; refine appendT _ rfl (.tmp 31) (.tmp 32) rfl w.heap.size L _ rfl HOk.out A c l rfl HNil.out HRow.out (by omega) HSZ.out ?_)
          intro A2 c2 w2 ho2 hn2 hb2
          rw [← List.length_append] at ho2 ⊢
          have HE := Lib.hid HS.out.symm
          clear HS
          rw [HE.out] at ho2 ⊢
          have HO2 := Lib.hid ho2
          have HB2 := Lib.hid (HBk.out.trans hb2)
          clear ho2 hb2 HOk
          go_wp2
          go_roundw
          case rel => exact ⟨k + 1, by omega, by go_num, ⟨A2, c2, rfl, HO2.out⟩, HB2.out⟩
          case measure => simp [intOf]; omega
        · have hkl : k = ts.length := by omega
          subst hkl
          have hoo := HOk.out
          rw [List.take_length] at hoo ⊢
          obtain ⟨A3, c3, he, hn3, _⟩ := own_value hoo
          injection he with e1 e2 e3
          subst e1 e3
          obtain ⟨_, h1, h2⟩ := Row.own hoo
          have HF := Lib.hid (show (allT ts).length ≤ c' ∧ (A' = none → c' = 0) ∧ Row wr A' (allT ts) from ⟨h1, hn3, h2⟩)
          clear hoo hn3 h1 h2 HOk
          go_wp2
          go_ret
          exact ⟨A', c', rfl, HF.out.1, HF.out.2.1, HF.out.2.2, HBk.out⟩
end Go.Proofs.YteamogdbhoajkaaDoor
