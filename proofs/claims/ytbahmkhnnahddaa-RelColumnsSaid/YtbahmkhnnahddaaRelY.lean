/- The laws' look at sizes over lists, and their fixed example. Conditions: texts within the form's reach. -/
import Derived.Test.YtbahmkhnnahddaaRelX
namespace Go.Proofs.Ytbahmkhnnahddaa
open Go.RowKit Go.Deep Go.Shelf

set_option maxRecDepth 100000 in
set_option maxHeartbeats 400000 in
theorem Long_lst (A0 : Option Addr) (cap : Nat) (ts : List TV) (hn : ts.length ≤ 60) (w : World) (hl : Lst [] w A0 ts)
    (hrows : ∀ t ∈ ts, Inb t.2.2 ∧ t.2.2.length ≤ maxLen) :
    Calls Try.prog 11 #[.slice A0 ts.length cap] w fun e w' => LongPost w ts e w' := by
  have HC := Lib.hid hl
  have HR := Lib.hid hrows
  clear hl hrows
  go_enter Try.func11, Try.ntmps11
  go_wp2
  go_loopw [3, 10] (fun n i wr => ∃ j : Nat, j ≤ ts.length ∧ i = .int .i64 j ∧ (∃ y : Int, n = .int .i64 y ∧ 0 ≤ y ∧ y ≤ 2000) ∧ Hid (∀ t ∈ ts.take j, Small t) ∧ Hid (Below w.heap.size w wr)) (fun _ i _ => ts.length - (intOf i).toNat)
  case atStart => exact ⟨0, Nat.zero_le _, rfl, ⟨0, rfl, by omega, by omega⟩, by intro t ht; simp at ht, Below.refl _ _⟩
  case round =>
    obtain ⟨j, hj, rfl, ⟨y, rfl, hy0, hy1⟩, HS, HB⟩ := hrel
    obtain ⟨wo, rfl⟩ : ∃ wo : World, wo = wr := ⟨_, rfl⟩
    by_cases hlt : j < ts.length
    · have HSS := Lib.hid (small_snoc hlt HS.out)
      obtain ⟨g, oo, rfl, hB, _, hct, h1⟩ := HC.out.at_ hlt
      have hrt := HR.out ts[j] (List.getElem_mem hlt)
      generalize ts[j] = t at HSS hct hrt h1
      obtain ⟨A, c, l⟩ := t
      have hcell := (HB.out.cell (p := ⟨g, oo + j, none⟩) hB).trans hct
      obtain ⟨h2, hlm⟩ := hrt
      have h1 := h1.row
      simp only at h1 h2 hlm
      have qg : g < wo.heap.size := Nat.lt_of_lt_of_le hB HB.out.size
      change wo.cell? ⟨g, oo + j, none⟩ = some (.slice A l.length c) at hcell
      unfold maxLen at hlm
      have HRow := Lib.hid h1
      have HIn := Lib.hid h2
      clear h1 h2 hct
      by_cases h50 : (50 : Int) < (l.length : Int)
      · go_wp2
        go_ret
        exact ⟨true, rfl, (fun h => by cases h), HB.out⟩
      · go_wp2
        go_loopw [3, 19] (fun n i wr => ∃ k : Nat, k ≤ l.length ∧ i = .int .i64 k ∧ (∃ y : Int, n = .int .i64 y ∧ 0 ≤ y ∧ y ≤ 2000) ∧ Hid (Short (l.take k)) ∧ Hid (Below w.heap.size w wr)) (fun _ i _ => l.length - (intOf i).toNat)
        case atStart => exact ⟨0, Nat.zero_le _, rfl, ⟨y, rfl, hy0, hy1⟩, by intro t ht; simp at ht, HB.out⟩
        case round =>
          obtain ⟨k, hk, rfl, ⟨z, rfl, hz0, hz1⟩, HT, HBI⟩ := hrel
          by_cases hlk : k < l.length
          · obtain ⟨b, o, rfl, hbw, hc⟩ := HRow.out.at_ hlk
            have HTT := Lib.hid (short_snoc hlk HT.out)
            have hx := HIn.out l[k] (List.getElem_mem hlk)
            generalize l[k] = x at HTT hc hx
            obtain ⟨xk, xn, xs⟩ := x
            obtain ⟨c0, c1, c2⟩ := hc
            have c0 := (HBI.out.cell hbw).trans c0
            have c1 := (HBI.out.cell hbw).trans c1
            have c2 := (HBI.out.cell hbw).trans c2
            simp only at c0 c1 c2 hx
            have hxi : (xs.size : Int) ≤ 140737488351232 := by omega
            have hx0 : 0 ≤ (xs.size : Int) := by omega
            by_cases hbig : (2000 : Int) < z + (xs.size : Int)
            · go_wp2
              go_ret
              exact ⟨true, rfl, (fun h => by cases h), HBI.out.alloc HBI.out.size _⟩
            · have HQ := Lib.hid (HTT.out (by simp only; omega))
              go_wp2
              go_roundw
              case rel => exact ⟨k + 1, by omega, by go_num, ⟨_, rfl, by omega, by omega⟩, HQ.out, HBI.out.alloc HBI.out.size _⟩
              case measure => simp [intOf]; omega
          · have HQ := Lib.hid (HSS.out ⟨by simp only; omega, by simp only; have := HT.out; rwa [List.take_of_length_le (by omega)] at this⟩)
            go_wp2
            go_roundw
            case rel => exact ⟨j + 1, by omega, by go_num, ⟨z, rfl, hz0, hz1⟩, HQ.out, HBI.out⟩
            case measure => simp [intOf]; omega
    · have HQ := Lib.hid (show ∀ t ∈ ts, Small t by have := HS.out; rwa [List.take_of_length_le (by omega)] at this)
      go_wp2
      go_ret
      exact ⟨false, rfl, fun _ => HQ.out, HB.out⟩

/-- what the laws let by. -/
def LargePost (w : World) (ts : List TV) (e : Ending) (w' : World) : Prop := ∃ r : Bool, e = .returned (.bool r) ∧ (r = false → ts.length ≤ 60 ∧ ∀ t ∈ ts, Small t) ∧ Below w.heap.size w w'
set_option maxRecDepth 100000 in
set_option maxHeartbeats 400000 in
theorem Large_any (A : Option Addr) (c : Nat) (ts : List TV) (w : World) (hl : Lst [] w A ts) (hrows : ∀ t ∈ ts, Inb t.2.2 ∧ t.2.2.length ≤ maxLen) (hn : ts.length ≤ maxLen) :
    Calls Try.prog 21 #[.slice A ts.length c] w fun e w' => LargePost w ts e w' := by
  unfold maxLen at hn
  by_cases h60 : (60 : Int) < (ts.length : Int)
  · clear hl hrows
    go_enter Try.func21, Try.ntmps21
    go_wp2
    go_ret
    exact ⟨true, rfl, (fun h => by cases h), Below.refl _ _⟩
  · have HG := Lib.hid (Long_lst A c ts (by omega) w hl hrows)
    have h6 : ts.length ≤ 60 := by omega
    clear hl hrows
    go_enter Try.func21, Try.ntmps21
    go_wp2_with fail
    refine HG.out.mono ?_
    rintro e w1 ⟨r, rfl, hr, b1⟩
    have HQ : Hid (LargePost w ts (.returned (.bool r)) w1) := ⟨r, rfl, fun h => ⟨h6, hr h⟩, b1⟩
    clear hr b1
    go_wp2
    go_ret
    exact HQ.out

abbrev num1 (k : Int) : List V3 := [(1, k, noText)]
set_option maxRecDepth 100000 in
set_option maxHeartbeats 400000 in
theorem n_any (k : Int) (w : World) :
    Calls Try.prog 38 #[.int .i64 k] w fun e w' => e = .returned (.slice (some ⟨w.heap.size, 0, none⟩) 1 1) ∧ Row w' (some ⟨w.heap.size, 0, none⟩) (num1 k) ∧ Below w.heap.size w w' ∧ w.heap.size < w'.heap.size := by
  go_enter Try.func38, Try.ntmps38
  go_wp2
  go_ret
  refine ⟨rfl, fun _ => ⟨w.heap.size, 0, rfl, by simp, fun i x hx => ?_⟩, (Below.refl _ _).alloc (Nat.le_refl _) _, by simp⟩
  have h : Own (w.alloc (.cells #[.int .i64 1, .int .i64 k, .string noText] 48)) w.heap.size 48 [.int .i64 1, .int .i64 k, .string noText] := heap_alloc_new w _
  cases i with
  | zero =>
    simp only [List.getElem?_cons_zero, Option.some.injEq] at hx
    subst hx
    exact ⟨h.cell 0, h.cell 1, h.cell 2⟩
  | succ i => simp at hx

theorem ex_err : ofE 1 [num1 2, num1 1, num1 2] = 0 := by kernel_rfl
theorem ex_list : ofL 1 [num1 2, num1 1, num1 2] = [num1 1, num1 2] := by kernel_rfl
theorem ex_has : fndT [num1 1, num1 2] (num1 1) = true := by kernel_rfl
theorem ex_not : fndT [num1 1, num1 2] (num1 3) = false := by kernel_rfl
theorem eql_nil (w : World) : (binOp .eql 26 .nilIface .nilIface).run Try.prog w = .ok (.bool true) w := by kernel_rfl
theorem num_small (k : Int) : (num1 k).length ≤ maxLen := by unfold maxLen; simp

set_option maxRecDepth 100000 in
set_option maxHeartbeats 1000000 in
theorem alive_any (w : World) : Calls Try.prog 8 #[] w fun e w' => e = .returned (.bool true) ∧ Below w.heap.size w w' := by
  have HN := Lib.hid n_any
  have k1 := eql_nil
  go_enter Try.func8, Try.ntmps8
  go_wp2_with fail
  refine (HN.out 2 w).mono ?_
  rintro e w1 ⟨rfl, r1, b1, s1⟩
  have HR1 := Lib.hid r1
  have HB1 := Lib.hid b1
  clear r1 b1
  go_wp2_with fail
  refine (HN.out 1 w1).mono ?_
  rintro e w2 ⟨rfl, r2, b2, s2⟩
  have HR2 := Lib.hid r2
  have HB2 := Lib.hid b2
  clear r2 b2
  go_wp2_with fail
  refine (HN.out 2 w2).mono ?_
  rintro e w3 ⟨rfl, r3, b3, s3⟩
  obtain ⟨ts, hts⟩ : ∃ ts : List TV, ts = [(some ⟨w.heap.size, 0, none⟩, 1, num1 2), (some ⟨w1.heap.size, 0, none⟩, 1, num1 1), (some ⟨w2.heap.size, 0, none⟩, 1, num1 2)] := ⟨_, rfl⟩
  have hbl : Own (w3.alloc (.cells #[.slice (some ⟨w.heap.size, 0, none⟩) 1 1, .slice (some ⟨w1.heap.size, 0, none⟩) 1 1, .slice (some ⟨w2.heap.size, 0, none⟩) 1 1] 35)) w3.heap.size 35 (ts.map tval) := by
    rw [hts]
    exact heap_alloc_new w3 _
  have hb4 : Below w3.heap.size w3 (w3.alloc (.cells #[.slice (some ⟨w.heap.size, 0, none⟩) 1 1, .slice (some ⟨w1.heap.size, 0, none⟩) 1 1, .slice (some ⟨w2.heap.size, 0, none⟩) 1 1] 35)) := (Below.refl _ _).alloc (Nat.le_refl _) _
  obtain ⟨w4, hw4⟩ : ∃ w4, w4 = w3.alloc (.cells #[.slice (some ⟨w.heap.size, 0, none⟩) 1 1, .slice (some ⟨w1.heap.size, 0, none⟩) 1 1, .slice (some ⟨w2.heap.size, 0, none⟩) 1 1] 35) := ⟨_, rfl⟩
  rw [← hw4] at hbl hb4
  have hl : Lst [] w4 (some ⟨w3.heap.size, 0, none⟩) ts := by
    refine ⟨fun _ => ⟨w3.heap.size, 0, rfl, hbl.lt, List.not_mem_nil, fun i t ht => ?_⟩, fun t ht => ?_⟩
    · rw [Nat.zero_add, hbl.cell, List.getElem?_map, ht]
      rfl
    · rw [hts] at ht
      simp only [List.mem_cons, List.not_mem_nil, or_false] at ht
      have e3 : Row w4 (some ⟨w2.heap.size, 0, none⟩) (num1 2) := r3.below hb4
      have e2 : Row w4 (some ⟨w1.heap.size, 0, none⟩) (num1 1) := (HR2.out.below b3).below hb4
      have e1 : Row w4 (some ⟨w.heap.size, 0, none⟩) (num1 2) := ((HR1.out.below HB2.out).below b3).below hb4
      rcases ht with rfl | rfl | rfl
      · exact e1.off (fun _ h => by cases h)
      · exact e2.off (fun _ h => by cases h)
      · exact e3.off (fun _ h => by cases h)
  have hlen : ts.length = 3 := by rw [hts]; rfl
  have htk : ∀ x ∈ ts, Tok x := by
    intro x hx
    rw [hts] at hx
    simp only [List.mem_cons, List.not_mem_nil, or_false] at hx
    have hf : ∀ k, Fit (num1 k) := fun k y hy => by
      simp only [List.mem_singleton] at hy
      subst hy
      exact Nat.zero_le _
    rcases hx with rfl | rfl | rfl
    · exact ⟨(fun h => by cases h), by simp, hf _⟩
    · exact ⟨(fun h => by cases h), by simp, hf _⟩
    · exact ⟨(fun h => by cases h), by simp, hf _⟩
  have ho := Of_any 1 (some ⟨w3.heap.size, 0, none⟩) 3 ts w4 hl htk (by rw [hlen]; unfold maxLen; omega)
  have hlists : lists ts = [num1 2, num1 1, num1 2] := by rw [hts]; rfl
  rw [hlists, ex_err, ex_list, hlen] at ho
  have HO := Lib.hid ho
  have hb04 : Below w.heap.size w w4 := HB1.out.trans ((HB2.out.mono (Nat.le_of_lt s1)).trans ((b3.mono (by omega)).trans (hb4.mono (by omega))))
  have HB4 := Lib.hid hb04
  have HW4 := Lib.hid hw4
  clear ho hlists htk hlen hl hbl hb4 hw4 hb04 r3 b3 HR1 HR2 HB1 HB2 hts
  go_wp2_with fail
  rw [← HW4.out]
  refine HO.out.mono ?_
  rintro e w5 (⟨_, b', rfl, ts', S', hr, hlq, hs, hb⟩ | ⟨h, _⟩)
  · have hb5 : Below w.heap.size w w5 := HB4.out.trans (hb.mono HB4.out.size)
    have HB5 := Lib.hid hb5
    have HR := Lib.hid hr
    have hg : Good 1 (lists ts') := by rw [hlq]; rw [← ex_list]; exact ofL_good _ _
    have HG := Lib.hid hg
    have HLq := Lib.hid hlq
    have HLen := Lib.hid (Len_any b' 1 ts' S' w5 hr)
    have hl2 : ts'.length = 2 := by
      have := congrArg List.length hlq
      simpa using this
    rw [hl2] at HLen
    clear hr hlq hs hb hb5 hg hl2
    go_wp2_with fail
    refine HLen.out.mono ?_
    rintro e w6 ⟨rfl, rfl⟩
    go_wp2_with fail
    refine (HN.out 1 w5).mono ?_
    rintro e w6 ⟨rfl, r6, b6, s6⟩
    have HH := Lib.hid (Has_any b' 1 ts' S' (some ⟨w5.heap.size, 0, none⟩, 1, num1 1) w6 (HR.out.below b6) HG.out r6 (num_small 1))
    rw [HLq.out, ex_has] at HH
    have HB6 := Lib.hid (HB5.out.trans (b6.mono HB5.out.size))
    have HR6 := Lib.hid (HR.out.below b6)
    clear r6 b6
    go_wp2_with fail
    refine HH.out.mono ?_
    rintro e w7 ⟨rfl, b7⟩
    have HB7 := Lib.hid (HB6.out.trans (b7.mono HB6.out.size))
    have HR7 := Lib.hid (HR6.out.below b7)
    clear b7
    go_wp2_with fail
    refine (HN.out 3 w7).mono ?_
    rintro e w8 ⟨rfl, r8, b8, s8⟩
    have HH8 := Lib.hid (Has_any b' 1 ts' S' (some ⟨w7.heap.size, 0, none⟩, 1, num1 3) w8 (HR7.out.below b8) HG.out r8 (num_small 3))
    rw [HLq.out, ex_not] at HH8
    have HB8 := Lib.hid (HB7.out.trans (b8.mono HB7.out.size))
    clear r8 b8
    go_wp2_with fail
    refine HH8.out.mono ?_
    rintro e w9 ⟨rfl, b9⟩
    have HB9 := Lib.hid (HB8.out.trans (b9.mono HB8.out.size))
    clear b9
    go_wp2
    go_ret
    exact ⟨rfl, HB9.out⟩
  · exact absurd rfl h
end Go.Proofs.Ytbahmkhnnahddaa
