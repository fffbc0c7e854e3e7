/- rel.Project. Conditions: at most 60 tuples, at most 20 columns. -/
import Derived.Test.YtbahmkhnnahddaaRelCc
namespace Go.Proofs.Ytbahmkhnnahddaa
open Go.RowKit Go.Deep Go.Shelf

set_option maxRecDepth 100000 in
set_option maxHeartbeats 2000000 in
theorem Project_any (b na : Nat) (ts : List TV) (S : List Nat) (C : Option Addr) (cc : Nat) (cs : List Int) (w : World) (h : RelAt w b na ts S) (hg : Good na (lists ts)) (hna : na ≤ 6) (h60 : ts.length ≤ 60) (hcs : cs.length ≤ 20) (hc : Cols w C cs) :
    Calls Try.prog 32 #[rp b, .slice C cs.length cc] w fun e w' => RelErr w cs.length (prL (lists ts) cs) (prE na cs) e w' := by
  obtain ⟨A, c, ho, _, hl, hlc⟩ := h.open_
  have h0 := ho.cell0
  have h1 := ho.cell1
  have q0 := ho.lt
  obtain ⟨i, hi, hz, hs, hby⟩ := info_parts infoVal
  obtain ⟨i0, hi0, hz0, hzs, hzb⟩ := info_parts infoTup
  have HO := Lib.hid ho
  have HL := Lib.hid hl
  have HG := Lib.hid hg
  have HC := Lib.hid hc
  have HI0 := Lib.hid hi0
  have HZ0 := Lib.hid hz0
  have HZS := Lib.hid hzs
  have HZB := Lib.hid hzb
  clear h hg ho hl hc hi0 hz0 hzs hzb
  go_enter Try.func32, Try.ntmps32
  go_wp2_with (at_make; refine wpList_make_full _ rfl _ _ 35 rfl w.heap.size 48 i _ 3 Try.underlying35 hi hz hs .i64 .i64 _ _ na rfl rfl rfl rfl ?b1 ?b2 ?b3 ?_)
  case b1 => rw [hby]; omega
  case b2 => unfold maxLen; omega
  case b3 => exact Nat.le_refl _
  intro w1 hm hgr
  have e0 : (Value.agg #[.int .i64 0, .int .i64 0, .string noText]).cells = #[.int .i64 0, .int .i64 0, .string noText] := rfl
  have hrow : Row w1 (some ⟨w.heap.size, 0, none⟩) (List.replicate na zeroV) := by
    have := Own.of_row hm rfl
    first | rw [e0, made3] at this | rw [made3] at this
    exact Own.row this
  have hb1 : Below w.heap.size w w1 := (Below.refl _ _).grown hgr (Nat.le_refl _) (by simp)
  have hlr : (List.replicate na zeroV).length = na := List.length_replicate
  have HR := Lib.hid hrow
  have B1 := Lib.hid hb1
  clear hm hgr e0 hrow hb1 hi hz hs hby
  by_cases hbad : cs.any (badC na) = true
  · have hp := Pick_range (some ⟨w.heap.size, 0, none⟩) na (List.replicate na zeroV) C cc cs (by unfold maxLen; omega) (by rw [hlr]; exact hbad) w1 (HC.out.below B1.out)
    rw [hlr] at hp
    have HP := Lib.hid hp
    have HE : Hid (prE na cs = 1) := by show _ = _; unfold prE; rw [if_pos hbad]
    have k1 := neq_eno 1
    clear hp hbad hlr
    go_wp2_with fail
    with_reducible refine HP.out.mono ?_
    rintro e w2 ⟨rfl, b2⟩
    have B2 := Lib.hid (B1.out.trans (b2.mono B1.out.size))
    clear b2 h0 h1 q0
    go_wp2
    refine bodyPost_ret (v := .tuple #[.pointer none, eno 1]) (by simp [results, Try.results32, go_sem]) rfl (.inr ⟨by rw [HE.out]; decide, by rw [HE.out], B2.out⟩)
  · have hbad : cs.any (badC na) = false := by simpa using hbad
    by_cases h6 : (6 : Int) < (cs.length : Int)
    · have hp := Pick_arity (some ⟨w.heap.size, 0, none⟩) na (List.replicate na zeroV) C cc cs (by unfold maxLen; omega) (by rw [hlr]; exact hbad) h6 w1 (HC.out.below B1.out)
      rw [hlr] at hp
      have HP := Lib.hid hp
      have HE : Hid (prE na cs = 6) := by show _ = _; unfold prE; rw [if_neg (by rw [hbad]; decide), if_pos (by omega)]
      have k1 := neq_eno 6
      clear hp hbad hlr
      go_wp2_with fail
      with_reducible refine HP.out.mono ?_
      rintro e w2 ⟨rfl, b2⟩
      have B2 := Lib.hid (B1.out.trans (b2.mono B1.out.size))
      clear b2 h0 h1 q0
      go_wp2
      refine bodyPost_ret (v := .tuple #[.pointer none, eno 6]) (by simp [results, Try.results32, go_sem]) rfl (.inr ⟨by rw [HE.out]; decide, by rw [HE.out], B2.out⟩)
    · have hp := Pick_new (some ⟨w.heap.size, 0, none⟩) na (List.replicate na zeroV) C cc cs (by rw [hlr]; exact hbad) h6 (by rw [hlr]; unfold maxLen; omega) w1 HR.out (HC.out.below B1.out)
      rw [hlr] at hp
      have HP := Lib.hid hp
      have HE : Hid (prE na cs = 0) := by show _ = _; unfold prE; rw [if_neg (by rw [hbad]; decide), if_neg (by omega)]
      have HBad := Lib.hid hbad
      have hc6 : cs.length ≤ 6 := by omega
      have k1 := neq_nil
      clear hp hbad hlr h6
      go_wp2_with fail
      with_reducible refine HP.out.mono ?_
      rintro e w2 ⟨g2, rfl, _, _, b2⟩
      have B2 := Lib.hid (B1.out.trans (b2.mono B1.out.size))
      clear b2 h0 h1 q0 B1 HR HP
      have o2 := HO.out.below B2.out
      have h0 := o2.cell0
      have h1 := o2.cell1
      have q0 := o2.lt
      clear o2
      go_wp2_with (at_make; refine wpList_make_own _ rfl _ _ 31 rfl w.heap.size 35 i0 _ 1 Try.underlying31 HI0.out HZ0.out HZS.out .i64 .i64 _ ts.length rfl rfl rfl ?c1 ?c2 ?c3 ?_)
      case c1 => rw [HZB.out]; omega
      case c2 => unfold maxLen; omega
      case c3 => exact B2.out.size
      intro w3 hm hgr
      have hb3 : Below w.heap.size w w3 := B2.out.grown hgr B2.out.size (by simp)
      have HP0 : Hid (PjI w ts cs 0 (.slice (some ⟨w2.heap.size, 0, none⟩) 0 ts.length) w3) := ⟨[], rfl, rfl, (fun t h => by cases h), hm, (fun t h => by cases h), hb3⟩
      have o3 := HO.out.below hb3
      clear hm hgr h0 h1 q0 B2 hb3
      have h0 := o3.cell0
      have h1 := o3.cell1
      have q0 := o3.lt
      clear o3
      go_wp2_with fail
      go_loopw [8, 40] (fun v ix wr => ∃ k : Nat, k ≤ ts.length ∧ ix = .int .i64 k ∧ ∃ A' c', v = .slice A' k c' ∧ Hid (PjI w ts cs k (.slice A' k c') wr)) (fun _ ix _ => ts.length - (intOf ix).toNat)
      case atStart => exact ⟨0, Nat.zero_le _, rfl, _, _, rfl, HP0.out⟩
      case round =>
        clear h0 h1 q0 HP0
        obtain ⟨k, hk, rfl, A', c', rfl, HI⟩ := hrel
        have HB : Hid (Below w.heap.size w wr) := by
          obtain ⟨_, _, _, _, _, _, h⟩ := HI.out
          exact h
        by_cases hlt : k < ts.length
        · obtain ⟨g, o, rfl, hgw, _, hc1, hr⟩ := HL.out.at_ hlt
          have hc1 := (HB.out.cell (p := ⟨g, o + k, none⟩) hgw).trans hc1
          have qg : g < wr.heap.size := Nat.lt_of_lt_of_le hgw HB.out.size
          have hla : ts[k].2.2.length = na := by
            have := (HG.out.1 ts[k].2.2 (List.mem_map_of_mem (List.getElem_mem hlt))).2
            omega
          have HP := Lib.hid (Pick_new ts[k].1 ts[k].2.1 ts[k].2.2 C cc cs (by rw [hla]; exact HBad.out) (by omega) (by unfold maxLen; omega) wr (hr.row.below HB.out) (HC.out.below HB.out))
          have HS := Lib.hid (fun w5 g5 pl (hb : Below wr.heap.size wr w5) hg hr (hpl : pickT ts[k].2.2 cs = pl) => pj_step (w5 := w5) (g5 := g5) (pl := pl) hlt h60 HI.out hb hg hr hpl)
          clear hr hla
          generalize ts[k] = x at hc1 HP HS
          obtain ⟨X, xc, xl⟩ := x
          change wr.cell? ⟨g, o + k, none⟩ = some (.slice X xl.length xc) at hc1
          simp only at HP HS
          go_wp2_with fail
          with_reducible refine HP.out.mono ?_
          rintro e w5 ⟨g5, rfl, hge, hrow, b5⟩
          obtain ⟨A2, c2, w6, hrun, hJ⟩ := HS.out w5 g5 _ b5 hge hrow rfl
          have HR1 := Lib.hid hrun
          have HJ := Lib.hid hJ
          clear hge hrow b5 hrun hJ HS HP hc1 qg
          generalize pickT xl cs = pl at HR1 ⊢
          go_wp2_with (first
            | (at_builtin; refine Lib.wpList_append_run _ rfl _ _ _ _ rfl _ _ rfl rfl _ _ HR1.out ?_))
          go_roundw
          case rel => exact ⟨k + 1, by omega, by go_num, _, _, rfl, HJ.out⟩
          case measure => simp [intOf]; omega
        · obtain rfl : k = ts.length := by omega
          obtain ⟨ps, p1, p2, p3, p4, p5, p6⟩ := HI.out
          rw [List.take_length] at p1
          have hlst : Lst [] wr A' ps := by
            obtain ⟨A2, c2, e, _, hcells⟩ := cells_of_owns p4 rfl
            injection e with e1 _ _
            subst e1
            refine ⟨fun h0 => ?_, fun t ht => ((p5 t ht).1).off (fun _ h => by cases h)⟩
            obtain ⟨g, o, e2, l, hc⟩ := hcells h0
            exact ⟨g, o, e2, l, List.not_mem_nil, hc⟩
          have htok : ∀ x ∈ ps, Tok x := fun x hx => by
            have hm : x.2.2 ∈ lists ps := List.mem_map_of_mem hx
            rw [p1] at hm
            obtain ⟨l, hl, e⟩ := List.mem_map.1 hm
            obtain ⟨g1, g2⟩ := HG.out.1 l hl
            have hr := right_pick (cs := cs) g1 (by rw [show l.length = na by omega]; exact HBad.out) hc6
            rw [e] at hr
            have := right_six hr
            exact ⟨p3 x hx, by omega, right_fits hr⟩
          have hof := Of_any cs.length A' c' ps wr hlst htok (by unfold maxLen; omega)
          obtain ⟨e1, e2⟩ := picks_of HG.out HBad.out hc6
          rw [p1, e1, e2, p2] at hof
          have HOf := Lib.hid hof
          clear p1 p2 p3 p4 p5 p6 hlst htok hof e1 e2 HI
          go_wp2_with fail
          with_reducible refine HOf.out.mono ?_
          rintro e w6 (⟨_, b', rfl, hN⟩ | ⟨hno, _⟩)
          · have HQ : Hid (RelErr w cs.length (prL (lists ts) cs) (prE na cs) (.returned (.tuple #[rp b', .nilIface])) w6) := by
              show RelErr _ _ _ _ _ _
              rw [HE.out]
              exact relErr_le HB.out (.inl ⟨rfl, b', rfl, hN⟩)
            clear hN
            go_wp2
            refine bodyPost_ret (v := .tuple #[rp b', .nilIface]) (by simp [results, Try.results32, go_sem]) rfl HQ.out
          · exact absurd rfl hno
end Go.Proofs.Ytbahmkhnnahddaa
