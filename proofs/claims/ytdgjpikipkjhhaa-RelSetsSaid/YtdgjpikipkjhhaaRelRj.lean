/- The document's relations: Same. Conditions: at most 4000 tuples. -/
import Derived.Test.YtdgjpikipkjhhaaRelRh
namespace Go.Proofs.Ytdgjpikipkjhhaa
open Go.RowKit Go.Deep Go.Shelf

/-- two boxes. -/
abbrev twoW (w : World) (a a' : Int) (A B : Value) : World := (w.alloc (.cells #[.int .i64 a, A] 33)).alloc (.cells #[.int .i64 a', B] 33)
theorem two_start (w : World) (a a' : Int) (A B : Value) : Own (twoW w a a' A B) w.heap.size 33 [.int .i64 a, A] ∧ Own (twoW w a a' A B) (w.heap.size + 1) 33 [.int .i64 a', B] ∧ Below w.heap.size w (twoW w a a' A B) := by
  have h1 : Own (w.alloc (.cells #[.int .i64 a, A] 33)) w.heap.size 33 [.int .i64 a, A] := heap_alloc_new w _
  have h2 := heap_alloc_new (w.alloc (.cells #[.int .i64 a, A] 33)) (.cells #[.int .i64 a', B] 33)
  rw [World.size_alloc] at h2
  exact ⟨h1.alloc _, h2, ((Below.refl _ w).alloc (Nat.le_refl _) _).alloc (by simp) _⟩

set_option maxRecDepth 100000 in
set_option maxHeartbeats 2000000 in
theorem refSame3_any (a : Int) (m m' : Value) (L M : List (List V3)) (w : World) (hm : RefR [] w a m L) (hm' : RefR [] w a m' M) (hf : ∀ l ∈ L, l.length ≤ 100) (hf' : ∀ l ∈ M, l.length ≤ 100) (hn : L.length ≤ 4000) (hn' : M.length ≤ 4000) :
    Calls Try.prog 31 #[m, m'] w fun e w' => e = .returned (.bool (sameL L M)) ∧ Below w.heap.size w w' := by
  obtain ⟨ts, hm, rfl⟩ := hm
  obtain ⟨A, c, rfl, hA, hc, hl, _⟩ := hm
  obtain ⟨ts', hm', rfl⟩ := hm'
  obtain ⟨A', c', rfl, hA', hc', hl', _⟩ := hm'
  obtain ⟨h2, h3, hb⟩ := two_start w a a (.slice A ts.length c) (.slice A' ts'.length c')
  have hn : ts.length ≤ 4000 := by simpa using hn
  have hn' : ts'.length ≤ 4000 := by simpa using hn'
  have HL := Lib.hid hl
  have HL' := Lib.hid hl'
  have HF := Lib.hid hf
  have HF' := Lib.hid hf'
  have HB0 := Lib.hid hb
  clear hl hl' hf hf' hA hA' hc hc'
  by_cases hne : ts.length = ts'.length
  · obtain ⟨n, hn1⟩ : ∃ n, ts.length = n := ⟨_, rfl⟩
    have hn2 : ts'.length = n := by omega
    have HN1 := Lib.hid hn1
    have HN2 := Lib.hid hn2
    rw [hn1, hn2] at h2 h3 HB0
    rw [hn1, hn2]
    rw [hn1] at hn
    clear hne hn1 hn2 hn'
    have H2 := Lib.hid h2
    have H3 := Lib.hid h3
    clear h2 h3 hb
    go_enter Try.func31, Try.ntmps31
    go_wp2_with fail
    go_loopw [5] (fun ix wr => ∃ k : Nat, k ≤ n ∧ ix = .int .i64 k ∧ Hid (sameL (lists ts) (lists ts') = sameL (lists (ts.drop k)) (lists (ts'.drop k))) ∧ Hid (Below w.heap.size w wr) ∧ Hid (Own wr w.heap.size 33 [.int .i64 a, .slice A n c] ∧ Own wr (w.heap.size + 1) 33 [.int .i64 a, .slice A' n c'])) (fun ix _ => n - (intOf ix).toNat)
    case atStart => exact ⟨0, Nat.zero_le _, rfl, rfl, HB0.out, H2.out, H3.out⟩
    case round =>
      obtain ⟨k, hk, rfl, HI, HB, HO⟩ := hrel
      have h20 := HO.out.1.cell 0
      have h21 := HO.out.1.cell 1
      have q2 := HO.out.1.lt
      have h30 := HO.out.2.cell 0
      have h31 := HO.out.2.cell 1
      have q3 := HO.out.2.lt
      by_cases hlt : k < n
      · have l1 : k < ts.length := by have := HN1.out; omega
        have l2 : k < ts'.length := by have := HN2.out; omega
        obtain ⟨g, o, rfl, hgw, _, hc, hr⟩ := HL.out.at_ l1
        obtain ⟨g', o', rfl, hgw', _, hc', hr'⟩ := HL'.out.at_ l2
        have hc := (HB.out.cell (p := ⟨g, o + k, none⟩) hgw).trans hc
        have hc' := (HB.out.cell (p := ⟨g', o' + k, none⟩) hgw').trans hc'
        have x1 := HF.out ts[k].2.2 (List.mem_map_of_mem (List.getElem_mem l1))
        have x2 := HF'.out ts'[k].2.2 (List.mem_map_of_mem (List.getElem_mem l2))
        have hbd : Below wr.heap.size wr wr.drew := (Below.refl _ wr).drew
        have HC := Lib.hid (refSame_any ts[k] ts'[k] (by unfold maxLen; omega) (by unfold maxLen; omega) wr.drew ((hr.row.below HB.out).below hbd) ((hr'.row.below HB.out).below hbd))
        have HS := Lib.hid (HI.out.trans (same_step l1 l2))
        have q1 : g < wr.heap.size := Nat.lt_of_lt_of_le hgw HB.out.size
        have q1' : g' < wr.heap.size := Nat.lt_of_lt_of_le hgw' HB.out.size
        clear HI hr hr' hgw hgw' x1 x2 hbd
        generalize ts[k] = x at hc HC HS
        generalize ts'[k] = y at hc' HC HS
        obtain ⟨X, xc, xl⟩ := x
        obtain ⟨Y, yc, yl⟩ := y
        change wr.cell? ⟨g, o + k, none⟩ = some (.slice X xl.length xc) at hc
        change wr.cell? ⟨g', o' + k, none⟩ = some (.slice Y yl.length yc) at hc'
        simp only at HS HC
        generalize decide (cmpT xl yl = 0) = r at HS HC
        go_wp2_with fail
        go_region_with (
          go_at_call 41
          refine HC.out.mono ?_
          rintro e w1 ⟨rfl, b1⟩
          have B1 := Lib.hid (HB.out.drew.trans (b1.mono HB.out.size))
          have O1 := Lib.hid (And.intro ((HO.out.1.below (Below.refl _ wr).drew).below b1) ((HO.out.2.below (Below.refl _ wr).drew).below b1))
          clear b1)
        all_goals
          clear hc hc' HC h20 h21 q2 h30 h31 q3 q1 q1'
          cases r with
          | true =>
            have HQ : Hid (sameL (lists ts) (lists ts') = sameL (lists (ts.drop (k + 1))) (lists (ts'.drop (k + 1)))) := by
              have := HS.out
              rwa [Bool.true_and] at this
            clear HS
            go_wp2
            go_roundw
            case rel => exact ⟨k + 1, by omega, by go_num, HQ.out, B1.out, O1.out⟩
            case measure => simp [intOf]; omega
          | false =>
            have HQ : Hid (sameL (lists ts) (lists ts') = false) := by
              have := HS.out
              rwa [Bool.false_and] at this
            clear HS
            go_wp2
            go_ret
            exact ⟨ret_bool HQ.out.symm, B1.out⟩
      · have HQ : Hid (sameL (lists ts) (lists ts') = true) := by
          have h1 := HI.out
          rw [List.drop_eq_nil_of_le (by have := HN1.out; omega), List.drop_eq_nil_of_le (by have := HN2.out; omega)] at h1
          exact h1
        go_wp2
        go_ret
        exact ⟨ret_bool HQ.out.symm, HB.out⟩
  · have HQ := Lib.hid (same_len (L := lists ts) (M := lists ts') (by simpa using hne))
    have hne1 : ((ts.length : Int) != (ts'.length : Int)) = true := by simp; omega
    clear hne h2 h3 hb
    go_enter Try.func31, Try.ntmps31
    go_wp2
    go_ret
    exact ⟨ret_bool HQ.out.symm, HB0.out⟩
end Go.Proofs.Ytdgjpikipkjhhaa
