/- The document's relations: Drop. Conditions: at most 4000 tuples. -/
import Derived.Test.YtbahmkhnnahddaaRelRd
import Derived.Test.YtbahmkhnnahddaaRelDa
namespace Go.Proofs.Ytbahmkhnnahddaa
open Go.RowKit Go.Deep Go.Shelf

/-- the argument's box, the result's, and the new one. -/
abbrev dropW (w : World) (a : Int) (A : Option Addr) (n c : Nat) : World := (refW w a A n c).alloc (.cells #[.int .i64 a, .slice none 0 0] 33)
/-- what Drop has gathered. -/
def DropI (w : World) (a : Int) (A : Option Addr) (c : Nat) (us : List TV) (x : List V3) (k : Nat) (wr : World) : Prop :=
  ∃ v pre, lists pre = delT (lists (us.take k)) x ∧ (∀ t ∈ pre, t ∈ us) ∧ pre.length ≤ k ∧ Own wr (w.heap.size + 2) 33 [.int .i64 a, v] ∧ wr.ownsRow (w.heap.size + 3) 35 1 v pre.length (pre.map tval) ∧
    Own wr w.heap.size 33 [.int .i64 a, .slice A us.length c] ∧ Own wr (w.heap.size + 1) 33 [.int .i64 0, .slice none 0 0] ∧ Below w.heap.size w wr
theorem drop_start (w : World) (a : Int) (A : Option Addr) (c : Nat) (us : List TV) (x : List V3) : DropI w a A c us x 0 (dropW w a A us.length c) := by
  obtain ⟨h2, h4, hb⟩ := ref_start w a A us.length c
  have h5 := heap_alloc_new (refW w a A us.length c) (.cells #[.int .i64 a, .slice none 0 0] 33)
  have hs : (refW w a A us.length c).heap.size = w.heap.size + 2 := by simp
  rw [hs] at h5
  exact ⟨.slice none 0 0, [], rfl, (fun t h => by cases h), Nat.le_refl _, h5, ⟨rfl, .inl ⟨rfl, rfl⟩⟩, h2.alloc _, h4.alloc _, hb.alloc (by simp; omega) _⟩

theorem del_take {us : List TV} {k : Nat} (hk : k < us.length) (x : List V3) : delT (lists (us.take (k + 1))) x = delT (lists (us.take k)) x ++ (if cmpT us[k].2.2 x = 0 then [] else [us[k].2.2]) := by
  unfold delT
  rw [List.take_succ_eq_append_getElem hk]
  simp only [lists, List.map_append, List.filter_append, List.map_cons, List.map_nil]
  congr 1
  by_cases h : cmpT us[k].2.2 x = 0
  · simp [h]
  · simp [h]

set_option maxRecDepth 100000 in
theorem drop_step {w wr : World} {a : Int} {A : Option Addr} {c k : Nat} {us : List TV} {x : List V3} {v : Value} {pre : List TV} (hk : k < us.length) (hn : us.length ≤ 4000)
    (h1 : lists pre = delT (lists (us.take k)) x) (h2 : ∀ t ∈ pre, t ∈ us) (h3 : pre.length ≤ k) (h4 : Own wr (w.heap.size + 2) 33 [.int .i64 a, v]) (h5 : wr.ownsRow (w.heap.size + 3) 35 1 v pre.length (pre.map tval))
    (h6 : Own wr w.heap.size 33 [.int .i64 a, .slice A us.length c]) (h7 : Own wr (w.heap.size + 1) 33 [.int .i64 0, .slice none 0 0]) (h8 : Below w.heap.size w wr)
    (hr : Row wr us[k].1 us[k].2.2) (hne : ¬ cmpT us[k].2.2 x = 0) :
    ∃ g' cap' wG, (Builtin.append_ #[31, 31] 31 #[v, .slice (some ⟨wr.heap.size, 0, none⟩) 1 1]).run Try.prog (wr.drew.alloc (.cells #[tval us[k]] 35)) = .ok (.slice (some ⟨g', 0, none⟩) (pre.length + 1) cap') wG ∧
      Own wG (w.heap.size + 2) 33 [.int .i64 a, v] ∧ Own wG w.heap.size 33 [.int .i64 a, .slice A us.length c] ∧ wG.cell? ⟨wr.heap.size, 0, none⟩ = some (tval us[k]) ∧ Hid (DropI w a A c us x (k + 1) (wG.setCell ⟨w.heap.size + 2, 1, none⟩ (.slice (some ⟨g', 0, none⟩) (pre.length + 1) cap'))) := by
  have hq := h4.lt
  have hbd : Below wr.heap.size wr (wr.drew.alloc (.cells #[tval us[k]] 35)) := (Below.refl _ wr).drew.alloc (Nat.le_refl _) _
  have hO : Own (wr.drew.alloc (.cells #[tval us[k]] 35)) wr.heap.size 35 [tval us[k]] := heap_alloc_new wr.drew _
  have hs : (wr.drew.alloc (.cells #[tval us[k]] 35)).heap.size = wr.heap.size + 1 := World.size_alloc wr.drew _
  obtain ⟨v', wG, hrun, ho, hg, hat⟩ := app_run (wr.drew.alloc (.cells #[tval us[k]] 35)) (w.heap.size + 3) v pre (owns_keep h5 (fun k hk hlt => hbd.block k hlt)) (some ⟨wr.heap.size, 0, none⟩) 1 [us[k]] (fun h => by cases h) (lst_one' hO (hr.below hbd)) (by simp; omega) (by omega)
  have hv : ∀ k, v.ownBlock = some k → w.heap.size + 3 ≤ k ∧ k < wr.heap.size := fun k hk => h5.lt k hk
  have hlen : (pre ++ [us[k]]).length = pre.length + 1 := by simp
  have ho' := ho
  rw [hlen] at ho'
  obtain ⟨g', cap', rfl⟩ := owns_val ho'
  have keep : ∀ {g : Nat} {e : TypeId} {xs : List Value}, Own wr g e xs → g < w.heap.size + 3 → Own wG g e xs := fun {g e xs} h hg3 => by
    have h' := h.below hbd
    exact (hg.block g h'.lt (fun hh => by have := hv g hh.symm; omega)).trans h'
  have hB : Below w.heap.size w wG := (h8.trans (hbd.mono h8.size)).grown hg (by have := h8.size; omega) (fun k hk => by have := hv k hk; omega)
  have k4 := keep h4 (by omega)
  have k6 := keep h6 (by omega)
  have k7 := keep h7 (by omega)
  have hcell : wG.cell? ⟨wr.heap.size, 0, none⟩ = some (tval us[k]) := hg.cell (hO.cell 0) (fun hh => by have := (hv _ hh.symm).2; exact absurd this (Nat.lt_irrefl _))
  have ks : Kept [w.heap.size + 2] wG (wG.setCell ⟨w.heap.size + 2, 1, none⟩ (.slice (some ⟨g', 0, none⟩) (pre.length + 1) cap')) := (Kept.refl _ _).setCell (.inl (by simp)) _
  refine ⟨g', cap', wG, hrun, k4, k6, hcell, _, pre ++ [us[k]], ?_, ?_, by simp; omega, k4.set 1 _, ?_, ks.own k6 (by simp), ks.own k7 (by simp), hB.setCell (by simp) _⟩
  · rw [del_take hk, if_neg hne, ← h1]
    simp
  · intro t ht
    rcases List.mem_append.1 ht with ht | ht
    · exact h2 t ht
    · simp only [List.mem_singleton] at ht
      subst ht
      exact List.getElem_mem hk
  · exact owns_keep ho (fun g hgb hlt => ks.block g hlt (by
      simp only [List.mem_singleton]
      have := (ho.lt g hgb).1
      omega))

/-- what Drop hands back. -/
theorem drop_done {S : List Nat} {w wr : World} {a : Int} {A2 : Option Addr} {us : List TV} {x : List V3} {v : Value} {pre : List TV} (hS : ∀ k ∈ S, k < w.heap.size) (hl : Lst S w A2 us) (hun : ∀ t ∈ us, t.1 = none → t.2.1 = 0)
    (h1 : lists pre = delT (lists us) x) (h2 : ∀ t ∈ pre, t ∈ us) (h4 : Own wr (w.heap.size + 2) 33 [.int .i64 a, v]) (h5 : wr.ownsRow (w.heap.size + 3) 35 1 v pre.length (pre.map tval))
    (h7 : Own wr (w.heap.size + 1) 33 [.int .i64 0, .slice none 0 0]) (h8 : Below w.heap.size w wr) :
    ∃ A' c', v = .slice A' pre.length c' ∧ Own ((wr.setCell ⟨w.heap.size + 1, 0, none⟩ (.int .i64 a)).setCell ⟨w.heap.size + 1, 1, none⟩ v) (w.heap.size + 1) 33 [.int .i64 a, v] ∧
      RefGot S w a (delT (lists us) x) (.returned (.agg #[.int .i64 a, v])) ((wr.setCell ⟨w.heap.size + 1, 0, none⟩ (.int .i64 a)).setCell ⟨w.heap.size + 1, 1, none⟩ v) := by
  obtain ⟨A', c', rfl, hnew, hc⟩ := cells_of_owns h5 rfl
  have hO := h7.two (u := .int .i64 a) (v := .slice A' pre.length c')
  refine ⟨A', c', rfl, hO, ?_⟩
  have hb := set_two h8 (.int .i64 a) (.slice A' pre.length c')
  have ks : Kept [w.heap.size + 1] wr ((wr.setCell ⟨w.heap.size + 1, 0, none⟩ (.int .i64 a)).setCell ⟨w.heap.size + 1, 1, none⟩ (.slice A' pre.length c')) := ((Kept.refl _ wr).setCell (.inl (by simp)) _).setCell (.inl (by simp)) _
  have hform : (A' = none → c' = 0) ∧ pre.length ≤ c' ∧ (A' = none ∨ ∃ g o, A' = some ⟨g, o, none⟩) := by
    rcases h5.2 with ⟨h, _⟩ | ⟨g, cap, cur, h, _, _, hle, _⟩
    · injection h with h9 h10 h11
      subst h9
      exact ⟨fun _ => h11, by omega, .inl rfl⟩
    · injection h with h9 h10 h11
      subst h9
      exact ⟨(fun h => by cases h), by omega, .inr ⟨g, 0, rfl⟩⟩
  refine ⟨_, rfl, ⟨pre, ⟨A', c', rfl, hform.1, hform.2.1, ⟨fun h0 => ?_, fun t ht => (hl.2 t (h2 t ht)).below hb⟩, fun t ht => hun t (h2 t ht), hform.2.2⟩, h1⟩, hb⟩
  obtain ⟨g, o, e, l, hcc⟩ := hc h0
  have hg := hnew g o e
  exact ⟨g, o, e, Nat.lt_of_lt_of_le l ks.size, (fun hm => by have := hS g hm; omega), fun i t ht => (ks.cell (p := ⟨g, o + i, none⟩) l (by simp; omega)).trans (hcc i t ht)⟩

set_option maxRecDepth 100000 in
set_option maxHeartbeats 2000000 in
theorem refDrop_any (S : List Nat) (a : Int) (m : Value) (L : List (List V3)) (x : TV) (w : World) (hS : ∀ k ∈ S, k < w.heap.size) (hm : RefR S w a m L) (hf : ∀ l ∈ L, l.length ≤ 100) (hn : L.length ≤ 4000) (hx : Row w x.1 x.2.2) (hxl : x.2.2.length ≤ maxLen) :
    Calls Try.prog 14 #[m, tval x] w fun e w' => RefGot S w a (delT L x.2.2) e w' := by
  obtain ⟨us, hm, rfl⟩ := hm
  obtain ⟨A, c, rfl, hA, hc, hl, hun, _⟩ := hm
  obtain ⟨X, xc, xl⟩ := x
  have hf : Fits us := fun t ht => by
    have := hf t.2.2 (List.mem_map_of_mem ht)
    unfold maxLen; omega
  have hn : us.length ≤ 4000 := by simpa using hn
  simp only at hx hxl ⊢
  have HST := Lib.hid (drop_start w a A c us xl)
  have HL := Lib.hid hl
  have HX := Lib.hid hx
  have HF := Lib.hid hf
  have HSS := Lib.hid hS
  have HUn := Lib.hid hun
  have mixed : Try.prog.follows .mixedOrders = true := by kernel_rfl
  clear hl hx hf hS hun hA
  go_enter Try.func14, Try.ntmps14
  go_wp2_with fail
  go_loopw [6] (fun ix wr => ∃ k : Nat, k ≤ us.length ∧ ix = .int .i64 k ∧ Hid (DropI w a A c us xl k wr)) (fun ix _ => us.length - (intOf ix).toNat)
  case atStart => exact ⟨0, Nat.zero_le _, rfl, HST.out⟩
  case round =>
    obtain ⟨k, hk, rfl, HI⟩ := hrel
    obtain ⟨v, pre, i1, i2, i3, i4, i5, i6, i7, i8⟩ := HI.out
    have h20 := i6.cell 0
    have h21 := i6.cell 1
    have q2 := i6.lt
    have h50 := i4.cell 0
    have h51 := i4.cell 1
    have q5 := i4.lt
    by_cases hlt : k < us.length
    · obtain ⟨g, o, rfl, hgw, _, hc1, hr⟩ := HL.out.at_ hlt
      have hfl := HF.out _ (List.getElem_mem hlt)
      have hc1 := (i8.cell (p := ⟨g, o + k, none⟩) hgw).trans hc1
      have qg : g < wr.heap.size := Nat.lt_of_lt_of_le hgw i8.size
      have hrw := hr.row.below i8
      have HC := Lib.hid (refSame_any us[k] (X, xc, xl) hfl hxl wr hrw (HX.out.below i8))
      have HI4 := Lib.hid i4
      have HI5 := Lib.hid i5
      have HI7 := Lib.hid i7
      have HDt := Lib.hid (del_take hlt xl)
      have HD : Hid (∀ W, Below wr.heap.size wr W → DropI w a (some ⟨g, o, none⟩) c us xl k W) := fun W hb => ⟨v, pre, i1, i2, i3, i4.below hb, owns_keep i5 (fun k _ h => hb.block k h), i6.below hb, i7.below hb, i8.trans (hb.mono i8.size)⟩
      have HP1 := Lib.hid i1
      have HP2 := Lib.hid i2
      have HP3 := Lib.hid i3
      have HRw := Lib.hid hrw
      clear hr hfl hrw i1 i2 i3 i4 i5 i6 i7 i8 HI
      simp only at HC
      by_cases heq : cmpT us[k].2.2 xl = 0
      · have HNx : Hid (∀ W, Below wr.heap.size wr W → DropI w a (some ⟨g, o, none⟩) c us xl (k + 1) W) := fun W hb => by
          obtain ⟨v', pre', j1, j2, j3, j4⟩ := HD.out W hb
          refine ⟨v', pre', ?_, j2, by omega, j4⟩
          rw [HDt.out, if_pos heq, List.append_nil]
          exact j1
        have e1 : decide (cmpT us[k].2.2 xl = 0) = true := decide_eq_true heq
        rw [e1] at HC
        clear e1 heq HD HDt
        have e2 : us[k].2.2.length = us[k].2.2.length := rfl
        generalize us[k] = t at hc1 HC
        obtain ⟨T, tc, tl⟩ := t
        change wr.cell? ⟨g, o + k, none⟩ = some (.slice T tl.length tc) at hc1
        go_wp2_with fail
        refine HC.out.mono ?_
        rintro e w1 ⟨rfl, b1⟩
        have H1 := Lib.hid (HNx.out _ b1)
        clear b1 hc1 h20 h21 h50 h51 HC
        go_wp2
        go_roundw
        case rel => exact ⟨k + 1, by omega, by go_num, H1.out⟩
        case measure => simp [intOf]; omega
      · have HNe := Lib.hid heq
        have e1 : decide (cmpT us[k].2.2 xl = 0) = false := decide_eq_false heq
        rw [e1] at HC
        have HStep : Hid (∀ W, Below wr.heap.size wr W → ∃ g' cap' wG, (Builtin.append_ #[31, 31] 31 #[v, .slice (some ⟨W.heap.size, 0, none⟩) 1 1]).run Try.prog (W.drew.alloc (.cells #[tval us[k]] 35)) = .ok (.slice (some ⟨g', 0, none⟩) (pre.length + 1) cap') wG ∧
          Own wG (w.heap.size + 2) 33 [.int .i64 a, v] ∧ Own wG w.heap.size 33 [.int .i64 a, .slice (some ⟨g, o, none⟩) us.length c] ∧ wG.cell? ⟨W.heap.size, 0, none⟩ = some (tval us[k]) ∧ Hid (DropI w a (some ⟨g, o, none⟩) c us xl (k + 1) (wG.setCell ⟨w.heap.size + 2, 1, none⟩ (.slice (some ⟨g', 0, none⟩) (pre.length + 1) cap'))) ∧ Own W w.heap.size 33 [.int .i64 a, .slice (some ⟨g, o, none⟩) us.length c]) := fun W hb => by
          obtain ⟨v9, pre9, _⟩ := HD.out W hb
          have j6 : Own W w.heap.size 33 [.int .i64 a, .slice (some ⟨g, o, none⟩) us.length c] := by
            obtain ⟨_, _, _, _, _, _, _, h, _⟩ := HD.out W hb
            exact h
          have j8 : Below w.heap.size w W := by
            obtain ⟨_, _, _, _, _, _, _, _, _, h⟩ := HD.out W hb
            exact h
          obtain ⟨g', cap', wG, z1, z2, z3, z4, z5⟩ := drop_step hlt hn HP1.out HP2.out HP3.out (HI4.out.below hb) (owns_keep HI5.out (fun k _ h => hb.block k h)) j6 (HI7.out.below hb) j8 (HRw.out.below hb) HNe.out
          exact ⟨g', cap', wG, z1, z2, z3, z4, z5, j6⟩
        clear e1 heq HD HDt HNe HP1 HP2 HP3 HRw HI7 HI5
        generalize us[k] = t at hc1 HC HStep
        obtain ⟨T, tc, tl⟩ := t
        change wr.cell? ⟨g, o + k, none⟩ = some (.slice T tl.length tc) at hc1
        go_wp2_with fail
        refine HC.out.mono ?_
        rintro e w1 ⟨rfl, b1⟩
        obtain ⟨g', cap', wG, z1, z2, z3, z4, HZ, z6⟩ := HStep.out _ b1
        have z7 := HI4.out.below b1
        have hc1 := (b1.cell (p := ⟨g, o + k, none⟩) qg).trans hc1
        have qg : g < w1.heap.size := Nat.lt_of_lt_of_le qg b1.size
        clear h20 h21 h50 h51 HC b1 q2 q5
        have HR1 := Lib.hid z1
        have h20 := z6.cell 0
        have h21 := z6.cell 1
        have q2 := z6.lt
        have h50 := z7.cell 0
        have h51 := z7.cell 1
        have q5 := z7.lt
        have g50 := z2.cell 0
        have g51 := z2.cell 1
        have g5f := z2.frozen 1
        have g5q := z2.lt
        have g20 := z3.cell 0
        have g21 := z3.cell 1
        have g2q := z3.lt
        clear z1 z2 z3 z6 z7 HStep HI4
        go_wp2_with fail
        go_region_law_o (refine step_append_runR rfl _ _ 31 31 rfl v (.slice (some ⟨w1.heap.size, 0, none⟩) 1 1) (by simp [Act.eval]) (by simp [Act.eval]) HR1.out ?_)
        all_goals
          go_wp2
          go_roundw
          case rel => exact ⟨k + 1, by omega, by go_num, HZ.out⟩
          case measure => simp [intOf]; omega
    · obtain rfl : k = us.length := by omega
      rw [List.take_length] at i1
      obtain ⟨A', c', rfl, hO, hG⟩ := drop_done HSS.out HL.out HUn.out i1 i2 i4 i5 i7 i8
      have h40 := i7.cell 0
      have h41 := i7.cell 1
      have f40 := i7.frozen 0
      have f41 := i7.frozen 1
      have q4 := i7.lt
      have HO := Lib.hid hO
      have HG := Lib.hid hG
      clear i1 i2 i3 i4 i5 i6 i7 i8 HI hO hG
      go_wp2
      refine bodyPost_ret (v := .agg #[.int .i64 a, .slice A' pre.length c']) (by simp [results, Try.results14, go_sem, HO.out.cell 0, HO.out.cell 1]) rfl HG.out
end Go.Proofs.Ytbahmkhnnahddaa
