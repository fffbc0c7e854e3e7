/- The document's relations: Union. Conditions: at most 2000 tuples together. -/
import Derived.Test.YtbahmkhnnahddaaRelRg
namespace Go.Proofs.Ytbahmkhnnahddaa
open Go.RowKit Go.Deep Go.Shelf

theorem RefR.len {S : List Nat} {w : World} {a : Int} {A : Option Addr} {n c : Nat} {L : List (List V3)} (h : RefR S w a (rv3 a A n c) L) : n = L.length := by
  obtain ⟨us, ⟨A', c', h1, _⟩, rfl⟩ := h
  simp only [rv3, Value.agg.injEq, Array.mk.injEq, List.cons.injEq, Value.slice.injEq] at h1
  simp [h1.2.1.2.1]
theorem RefR.form {S : List Nat} {w : World} {a : Int} {m : Value} {L : List (List V3)} (h : RefR S w a m L) : ∃ A c, m = rv3 a A L.length c := by
  obtain ⟨us, ⟨A', c', h1, _⟩, rfl⟩ := h
  exact ⟨A', c', by simpa using h1⟩
def RUniPost (S : List Nat) (w : World) (a : Int) (L : List (List V3)) (e : Ending) (w' : World) : Prop :=
  ∃ m, e = .returned (.tuple #[m, .int .i64 0]) ∧ RefR S w' a m L ∧ Below w.heap.size w w'

set_option maxRecDepth 100000 in
set_option maxHeartbeats 2000000 in
theorem refUnion_any (S : List Nat) (a a' : Int) (m m' : Value) (L M : List (List V3)) (w : World) (hS : ∀ k ∈ S, k < w.heap.size) (hm : RefR S w a m L) (hm' : RefR [] w a' m' M) (hL : LOk L) (hf' : ∀ l ∈ M, l.length ≤ 100) (hn : L.length + M.length ≤ 2000) :
    Calls Try.prog 27 #[m, m'] w fun e w' => RUniPost S w a (M.foldl putT L) e w' := by
  obtain ⟨us', hm', rfl⟩ := hm'
  obtain ⟨A', c', rfl, hA', hc', hl', hun', _⟩ := hm'
  have hm0 := hm
  obtain ⟨us, ⟨A, c, rfl, _⟩, _⟩ := hm0
  have HST := Lib.hid (acc_start (a' := a') (B := .slice A' us'.length c') hm)
  have HL := Lib.hid hl'
  have HLk := Lib.hid hL
  have HSS := Lib.hid hS
  have HF' := Lib.hid hf'
  have HUn := Lib.hid hun'
  have hn' : L.length + us'.length ≤ 2000 := by simpa using hn
  have mixed : Try.prog.follows .mixedOrders = true := by kernel_rfl
  clear hl' hS hf' hun' hA' hm hL hn
  go_enter Try.func27, Try.ntmps27
  go_wp2_with fail
  go_loopw [6] (fun ix wr => ∃ k : Nat, k ≤ us'.length ∧ ix = .int .i64 k ∧ Hid (AccI S w a a' (.slice A' us'.length c') ((lists (us'.take k)).foldl putT L) wr)) (fun ix _ => us'.length - (intOf ix).toNat)
  case atStart => exact ⟨0, Nat.zero_le _, rfl, HST.out⟩
  case round =>
    obtain ⟨k, hk, rfl, HI⟩ := hrel
    obtain ⟨A0, c0, nn, i1, i2, i3, i4, i5⟩ := HI.out
    have h20 := i1.cell 0
    have h21 := i1.cell 1
    have f20 := i1.frozen 0
    have f21 := i1.frozen 1
    have q2 := i1.lt
    have h30 := i3.cell 0
    have h31 := i3.cell 1
    have q3 := i3.lt
    by_cases hlt : k < us'.length
    · obtain ⟨g, o, rfl, hgw, _, hc1, hr⟩ := HL.out.at_ hlt
      have hc1 := (i5.cell (p := ⟨g, o + k, none⟩) hgw).trans hc1
      have qg : g < wr.heap.size := Nat.lt_of_lt_of_le hgw i5.size
      have hxl := HF'.out us'[k].2.2 (List.mem_map_of_mem (List.getElem_mem hlt))
      have hlf := putF_ok (lists (us'.take k)) L HLk.out (fun x hx => HF'.out x (by
        obtain ⟨t, h1, rfl⟩ := List.mem_map.1 hx
        exact List.mem_map_of_mem (List.mem_of_mem_take h1)))
      have hbd : Below wr.heap.size wr wr.drew := (Below.refl _ wr).drew
      have htl : (lists (us'.take k)).length = k := by simp; omega
      have HA := Lib.hid (refPut_any (w.heap.size :: (w.heap.size + 1) :: (w.heap.size + 2) :: S) a _ _ us'[k] wr.drew (acc_sub HI.out HSS.out hbd) (i2.below hbd) hlf.1 (by omega) ((hr.row.below i5).below hbd) (HUn.out _ (List.getElem_mem hlt)) hxl)
      have HN : Hid (∀ w2 A2 c2 n2, Below wr.drew.heap.size wr.drew w2 → RefR (w.heap.size :: (w.heap.size + 1) :: (w.heap.size + 2) :: S) w2 a (rv3 a A2 n2 c2) (putT ((lists (us'.take k)).foldl putT L) us'[k].2.2) → AccI S w a a' (.slice (some ⟨g, o, none⟩) us'.length c') ((lists (us'.take (k + 1))).foldl putT L) ((w2.setCell ⟨w.heap.size, 0, none⟩ (.int .i64 a)).setCell ⟨w.heap.size, 1, none⟩ (.slice A2 n2 c2))) := fun w2 A2 c2 n2 hb hR => by
        have e1 : (lists (us'.take (k + 1))).foldl putT L = putT ((lists (us'.take k)).foldl putT L) us'[k].2.2 := by
          have h1 : k < (lists us').length := by simpa using hlt
          have := fold_take putT L (lists us') k h1
          rw [← List.map_take, ← List.map_take] at this
          rw [this]
          simp
        rw [e1]
        exact acc_next HI.out (hbd.trans hb) hR
      have HO := Lib.hid (fun w2 (hb : Below wr.drew.heap.size wr.drew w2) => i1.below (hbd.trans hb))
      clear hr i1 i2 i3 i4 i5 HI hlf hbd hxl htl
      generalize us'[k] = x at hc1 HA HN
      obtain ⟨X, xc, xl⟩ := x
      change wr.cell? ⟨g, o + k, none⟩ = some (.slice X xl.length xc) at hc1
      simp only at HA HN
      generalize putT ((lists (us'.take k)).foldl putT L) xl = D at HA HN
      go_wp2_with fail
      go_region_with (
         go_at_call 46
         refine HA.out.mono ?_
         rintro e w2 ⟨m2, rfl, hm2, b2⟩
         obtain ⟨us2, ⟨A2, c2, rfl, hA2⟩, hl2⟩ := hm2
         have HQ := Lib.hid (HN.out w2 A2 c2 us2.length b2 ⟨us2, ⟨A2, c2, rfl, hA2⟩, hl2⟩)
         have j6 := HO.out w2 b2
         clear h20 h21 f20 f21 q2 hA2 hl2 b2
         have h20 := j6.cell 0
         have h21 := j6.cell 1
         have f20 := j6.frozen 0
         have f21 := j6.frozen 1
         have q2 := j6.lt
         clear j6)
      all_goals
        go_wp2
        go_roundw
        case rel => exact ⟨k + 1, by omega, by go_num, HQ.out⟩
        case measure => simp [intOf]; omega
    · obtain rfl : k = us'.length := by omega
      rw [List.take_length] at i2
      have hlf := putF_ok (lists us') L HLk.out HF'.out
      have hn2 := i2.len
      have hn3 : nn ≤ 2000 := by
        have := hlf.2
        simp only [List.length_map] at this
        omega
      have hn4 : ¬ ((2000 : Int) < (nn : Int)) := by omega
      obtain ⟨hO, hR, hB⟩ := acc_done i2 i4 i5
      have HQ : Hid (RUniPost S w a ((lists us').foldl putT L) (.returned (.tuple #[rv3 a A0 nn c0, .int .i64 0])) _) := ⟨_, rfl, hR, hB⟩
      have HO := Lib.hid hO
      have h40 := i4.cell 0
      have h41 := i4.cell 1
      have f40 := i4.frozen 0
      have f41 := i4.frozen 1
      have q4 := i4.lt
      clear hO hR hB i1 i2 i3 i4 i5 HI hlf hn2 hn3
      go_wp2
      refine bodyPost_ret (v := .tuple #[rv3 a A0 nn c0, .int .i64 0]) (by simp [results, Try.results27, go_sem, HO.out.cell 0, HO.out.cell 1]) rfl HQ.out
end Go.Proofs.Ytbahmkhnnahddaa
