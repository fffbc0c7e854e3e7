/- RelColumns' walk. Conditions: texts within the form's reach. -/
import Derived.Test.YtbahmkhnnahddaaRelCk
import Derived.StillTailTactics
import Derived.Deep.DeepCutAuto
namespace Go.Proofs.Ytbahmkhnnahddaa
open Go.RowKit Go.Deep Go.Shelf
attribute [local go_sem] Oper.semAt_some

theorem relErr_v {w w' : World} {a n : Int} {L : List (List V3)} {e : Ending} (h : RelErr w a L n e w') : OfV w a n L e w' := by
  rcases h with ⟨h0, b, rfl, ts, S, hr, hl, _, hb⟩ | ⟨h0, rfl, hb⟩
  · exact ⟨rp b, by rw [h0, err0], fun _ => ⟨b, ts, S, rfl, hr, hl⟩, fun h => absurd h0 h, hb⟩
  · exact ⟨.pointer none, by rw [err_eno h0], fun h => absurd h h0, fun _ => rfl, hb⟩
theorem rofPost_v {w w' : World} {a n : Int} {L : List (List V3)} {e : Ending} (h : ROfPost [] w a L n e w') : ROfV w a n L e w' := by
  rcases h with ⟨h0, m, rfl, hr, hb⟩ | ⟨h0, rfl, hb⟩
  · obtain ⟨A2, c2, rfl⟩ := hr.form
    exact ⟨a, A2, _, c2, by rw [h0], fun _ => hr, hb⟩
  · exact ⟨0, none, 0, 0, rfl, fun h => absurd h h0, hb⟩

set_option maxRecDepth 100000 in
set_option maxHeartbeats 2000000 in
theorem columns_walk (A : Option Addr) (c : Nat) (xs : List TV) (C : Option Addr) (cc : Nat) (cs : List Int) (st : Int) (w : World) (hx : InL w A xs) (hl : cs.length ≤ maxLen) (hc : Cols w C cs) :
    Calls Try.prog 5 #[.slice A xs.length c, .slice C cs.length cc, .int .i64 st] w fun e w' => e = .returned (.bool true) ∧ Below w.heap.size w w' := by
  refine (callsIn_wide (n := 9)).1 ?_
  have hF5 : Fence.wide.fn 5 := trivial
  have n8 : Fence.wide.fn 8 := trivial
  have n21 : Fence.wide.fn 21 := trivial
  have n20 : Fence.wide.fn 20 := trivial
  have n17 : Fence.wide.fn 17 := trivial
  have n22 : Fence.wide.fn 22 := trivial
  have n23 : Fence.wide.fn 23 := trivial
  have n32 : Fence.wide.fn 32 := trivial
  have n33 : Fence.wide.fn 33 := trivial
  have n34 : Fence.wide.fn 34 := trivial
  have n35 : Fence.wide.fn 35 := trivial
  have n75 : Fence.wide.fn 75 := trivial
  have hB0 : Below w.heap.size w ((w.alloc (.cells #[.int .i64 st] 3)).alloc (.cells #[.bool false] 4)) := ((Below.refl _ w).alloc (Nat.le_refl _) _).alloc (by simp) _
  have hO5 : Own ((w.alloc (.cells #[.int .i64 st] 3)).alloc (.cells #[.bool false] 4)) w.heap.size 3 [.int .i64 st] := by
    have h1 : Own (w.alloc (.cells #[.int .i64 st] 3)) w.heap.size 3 [.int .i64 st] := heap_alloc_new w _
    exact h1.alloc _
  have hO6 : Own ((w.alloc (.cells #[.int .i64 st] 3)).alloc (.cells #[.bool false] 4)) (w.heap.size + 1) 4 [.bool false] := by
    have h1 := heap_alloc_new (w.alloc (.cells #[.int .i64 st] 3)) (.cells #[.bool false] 4)
    rw [World.size_alloc] at h1
    exact h1
  obtain ⟨w0, hw0⟩ : ∃ w0, w0 = (w.alloc (.cells #[.int .i64 st] 3)).alloc (.cells #[.bool false] 4) := ⟨_, rfl⟩
  rw [← hw0] at hB0 hO5 hO6
  have HX := Lib.hid hx
  have HC := Lib.hid hc
  have B0 := Lib.hid hB0
  have O5 := Lib.hid hO5
  have O6 := Lib.hid hO6
  have HW := Lib.hid hw0
  have hlen := hx.len
  unfold maxLen at hlen hl
  clear hx hc hB0 hO5 hO6 hw0
  refine callsIn_of_wp_marks Try.func5 rfl hF5 ?_ rfl
  simp only [Try.ntmps5, List.size_toArray, List.length_cons, List.length_nil, Nat.reduceAdd, Nat.reduceSub, Array.replicate_succ, Array.replicate_zero, List.push_toArray, List.append_toArray, List.nil_append, List.cons_append]
  gi_wp2_with fail
  rw [← HW.out]
  refine (callsIn_wide.2 (alive_any _)).mono ?_
  rintro e w1 ⟨rfl, b1⟩
  have B1 := Lib.hid (B0.out.trans (b1.mono B0.out.size))
  have O5 := Lib.hid (O5.out.below b1)
  have O6 := Lib.hid (O6.out.below b1)
  clear b1 B0
  gi_wp2_with fail
  refine (callsIn_wide.2 (Large_any A c xs w1 (HX.out.lst.below B1.out) HX.out.inb HX.out.len)).mono ?_
  rintro e w2 ⟨r, rfl, hr, b2⟩
  have B2 := Lib.hid (B1.out.trans (b2.mono B1.out.size))
  have O5 := Lib.hid (O5.out.below b2)
  have O6 := Lib.hid (O6.out.below b2)
  have HLg := Lib.hid hr
  clear b2 B1 hr
  have h60 := O6.out.cell 0
  have f60 := O6.out.frozen 0
  have q60 := O6.out.lt
  cases r with
  | true =>
    gi_wp2
    exact ⟨.bool true, (by simp [results, Try.results5, go_sem, (O6.out.set 0 (.bool true)).cell 0]), rfl, B2.out.setCell (p := ⟨w.heap.size + 1, 0, none⟩) (by simp) _⟩
  | false =>
    by_cases h00 : ((xs.length : Int) == 0) = true
    · gi_wp2
      exact ⟨.bool true, (by simp [results, Try.results5, go_sem, (O6.out.set 0 (.bool true)).cell 0]), rfl, B2.out.setCell (p := ⟨w.heap.size + 1, 0, none⟩) (by simp) _⟩
    · have h00 : ((xs.length : Int) == 0) = false := by simpa using h00
      have h0n : 0 < xs.length := pos_of h00
      by_cases h20 : (20 : Int) < (cs.length : Int)
      · gi_wp2
        exact ⟨.bool true, (by simp [results, Try.results5, go_sem, (O6.out.set 0 (.bool true)).cell 0]), rfl, B2.out.setCell (p := ⟨w.heap.size + 1, 0, none⟩) (by simp) _⟩
      · have hcs : cs.length ≤ 20 := by omega
        have hS := HLg.out (by simp)
        have HLst := Lib.hid (HX.out.lst.below B2.out)
        obtain ⟨g0, o0, rfl, hg0, _, hc0, _⟩ := HLst.out.at_ h0n
        obtain ⟨t0, ht0⟩ : ∃ t0, xs[0] = t0 := ⟨_, rfl⟩
        rw [ht0] at hc0
        obtain ⟨T0, tc0, tl0⟩ := t0
        have hc0 : w2.cell? ⟨g0, o0, none⟩ = some (.slice T0 tl0.length tc0) := hc0
        have HO := Lib.hid (OfV_any (tl0.length : Int) (some ⟨g0, o0, none⟩) c xs w2 HLst.out (HX.out.tok hS.2) HX.out.len)
        have HMO := Lib.hid (fun W (hb : Below w2.heap.size w2 W) => ROfV_any (tl0.length : Int) (some ⟨g0, o0, none⟩) c xs W (HLst.out.below hb) (HX.out.tok hS.2) HX.out.len)
        have HA6 : Hid (ofE (tl0.length : Int) (lists xs) = 0 → tl0.length ≤ 6) := fun h => by
          unfold ofE at h
          split at h
          · cases h
          · omega
        have HGx := Lib.hid (ofL_good (tl0.length : Int) (lists xs))
        have HLx : Hid ((ofL (tl0.length : Int) (lists xs)).length ≤ 60) := Nat.le_trans (allL_len (a := (tl0.length : Int)) (lists xs) (L := [])) (by have := hS.1; simpa using this)
        generalize ofL (tl0.length : Int) (lists xs) = L at HO HMO HGx HLx
        generalize ofE (tl0.length : Int) (lists xs) = n at HO HMO HA6
        clear hS HLg
        gi_wp2_with fail
        refine (callsIn_wide.2 HO.out).mono ?_
        rintro e w4 ⟨x, rfl, hx1, hx2, hb4⟩
        have O5 := Lib.hid (O5.out.below hb4)
        have O6 := Lib.hid (O6.out.below hb4)
        have B4 := Lib.hid (B2.out.trans (hb4.mono B2.out.size))
        have HM := Lib.hid (HMO.out w4 hb4)
        have X1 := Lib.hid hx1
        have X2 := Lib.hid hx2
        clear hx1 hx2 hb4 HO HMO h60 f60 q60
        gi_wp2_with fail
        refine (callsIn_wide.2 HM.out).mono ?_
        rintro e w5 ⟨a2, A2, n2, c2, rfl, hm1, hb5⟩
        have hbm : Below w5.heap.size w5 (w5.alloc (.cells #[.int .i64 a2, .slice A2 n2 c2] 33)) := (Below.refl _ _).alloc (Nat.le_refl _) _
        have hom : Own (w5.alloc (.cells #[.int .i64 a2, .slice A2 n2 c2] 33)) w5.heap.size 33 [.int .i64 a2, .slice A2 n2 c2] := heap_alloc_new w5 _
        obtain ⟨w6, hw6⟩ : ∃ w6, w6 = w5.alloc (.cells #[.int .i64 a2, .slice A2 n2 c2] 33) := ⟨_, rfl⟩
        rw [← hw6] at hbm hom
        have C46 := Lib.hid (hb5.trans (hbm.mono hb5.size))
        have O5 := Lib.hid (O5.out.below C46.out)
        have O6 := Lib.hid (O6.out.below C46.out)
        have B6 := Lib.hid (B4.out.trans (C46.out.mono B4.out.size))
        have M1 := Lib.hid (fun h => (hm1 h).below hbm)
        have O10 := Lib.hid hom
        have HW6 := Lib.hid hw6
        clear hm1 hb5 hbm hom hw6 HM
        by_cases hn : n = 0
        · subst hn
          obtain ⟨bx, tx, Sx, rfl, hr1, hl1⟩ := X1.out rfl
          have hna := HA6.out rfl
          have m1 := M1.out rfl
          obtain rfl : a2 = (tl0.length : Int) := by
            obtain ⟨A9, c9, h9⟩ := m1.form
            simpa using (by simpa [rv3] using h9 : a2 = (tl0.length : Int) ∧ _).1
          have HXR := Lib.hid (hr1.below C46.out)
          have HXL := Lib.hid hl1
          have HM1 := Lib.hid m1
          have HGX : Hid (Good (tl0.length : Int) (lists tx)) := by show Good _ (lists tx); rw [hl1]; exact HGx.out
          have h60 : tx.length ≤ 60 := by
            have := HLx.out
            rw [← hl1] at this
            simpa using this
          have HP := Lib.hid (fun W (hb : Below w6.heap.size w6 W) => (Project_any bx tl0.length tx Sx C cc cs W (HXR.out.below hb) HGX.out hna h60 hcs (HC.out.below (B6.out.trans (hb.mono B6.out.size)))).mono fun _ _ h => relErr_v h)
          have HRP := Lib.hid (fun W (hb : Below w6.heap.size w6 W) => (refProject_any [] tl0.length _ L C cc cs W (fun _ h => by cases h) (HM1.out.below hb) (fun l hl => by have := (HGx.out.1 l hl).2; omega) hna HLx.out hcs (HC.out.below (B6.out.trans (hb.mono B6.out.size)))).mono fun _ _ h => rofPost_v h)
          rw [hl1] at HP
          have HPE : Hid (cs.length = 0 → prE tl0.length cs = 0) := fun h => by
            have : cs = [] := List.eq_nil_of_length_eq_zero h
            subst this
            rfl
          have hPE : Hid (prE tl0.length cs = 0 → cs.any (badC tl0.length) = false ∧ cs.length ≤ 6) := fun h => by
            unfold prE at h
            split at h
            · cases h
            · rename_i hb
              split at h
              · cases h
              · exact ⟨by simpa using hb, by omega⟩
          generalize prE tl0.length cs = p at HP HRP HPE hPE
          have HGP : Hid (p = 0 → Good (cs.length : Int) (prL L cs)) := fun hp => by
            have hq := hPE.out hp
            obtain ⟨e1, e2⟩ := picks_of HGx.out hq.1 hq.2
            rw [← e2]
            exact ofL_good _ _
          generalize prL L cs = Lp at HP HRP HGP
          clear hr1 hl1 m1 X1 X2 M1 HA6
          have k1 := neq_nil
          rw [err0]
          gi_wp2_with fail
          rw [← HW6.out]
          refine (callsIn_wide.2 (HP.out _ (Below.refl _ _))).mono ?_
          rintro e w7 ⟨y, rfl, hy1, hy2, hb7⟩
          have O5 := Lib.hid (O5.out.below hb7)
          have O6 := Lib.hid (O6.out.below hb7)
          have O10 := Lib.hid (O10.out.below hb7)
          have C67 := Lib.hid hb7
          have Y1 := Lib.hid hy1
          have HM2 := Lib.hid (HRP.out w7 hb7)
          clear hy1 hy2 hb7 HP HRP
          have ha0 := O10.out.cell 0
          have ha1 := O10.out.cell 1
          have qa := O10.out.lt
          gi_wp2_with fail
          refine (callsIn_wide.2 HM2.out).mono ?_
          rintro e w8 ⟨a3, A3, n3, c3, rfl, hm3, hb8⟩
          have hbm : Below w8.heap.size w8 (w8.alloc (.cells #[.int .i64 a3, .slice A3 n3 c3] 33)) := (Below.refl _ _).alloc (Nat.le_refl _) _
          have hom : Own (w8.alloc (.cells #[.int .i64 a3, .slice A3 n3 c3] 33)) w8.heap.size 33 [.int .i64 a3, .slice A3 n3 c3] := heap_alloc_new w8 _
          obtain ⟨w9, hw9⟩ : ∃ w9, w9 = w8.alloc (.cells #[.int .i64 a3, .slice A3 n3 c3] 33) := ⟨_, rfl⟩
          rw [← hw9] at hbm hom
          have C79 := Lib.hid (hb8.trans (hbm.mono hb8.size))
          have O5 := Lib.hid (O5.out.below C79.out)
          have O6 := Lib.hid (O6.out.below C79.out)
          have O10 := Lib.hid (O10.out.below C79.out)
          have O13 := Lib.hid hom
          have M3 := Lib.hid (fun h => (hm3 h).below hbm)
          have C69 := Lib.hid (C67.out.trans (C79.out.mono C67.out.size))
          have HW9 := Lib.hid hw9
          clear hm3 hb8 hbm hom hw9 HM2 ha0 ha1 qa
          have HNp := Lib.hid (Num_any p w9)
          have ha0 := O13.out.cell 0
          have ha1 := O13.out.cell 1
          have qa := O13.out.lt
          have h60' := O6.out.cell 0
          have f60 := O6.out.frozen 0
          have q60 := O6.out.lt
          gi_wp2_with fail
          rw [← HW9.out]
          refine (callsIn_wide.2 HNp.out).mono ?_
          rintro e w10 ⟨rfl, rfl⟩
          by_cases hcz : cs.length = 0
          · have hp0 := HPE.out hcz
            subst hp0
            obtain ⟨by', ty, Sy, rfl, hry, hly⟩ := Y1.out rfl
            have HGY : Hid (Good (cs.length : Int) (lists ty)) := by show Good _ (lists ty); rw [hly]; exact HGP.out rfl
            have HI := Lib.hid (fun W (hb : Below w9.heap.size w9 W) => IsR_any by' _ ty Sy [] _ _ W ((hry.below C79.out).below hb) HGY.out ((M3.out rfl).below hb) hly)
            have B9 := Lib.hid (B6.out.trans (C69.out.mono B6.out.size))
            have hcz' : ((cs.length : Int) == 0) = true := by simp [hcz]
            have O6z := O6
            clear hry hly HGP HGx HXR HXL HM1 HGX HC HX HLst O5 O10
            clear h60' f60 q60 hcz
            gi_wp2_with fail
            refine (callsIn_wide.2 (HI.out _ (Below.refl _ _))).mono ?_
            rintro e w11 ⟨rfl, hb11⟩
            have B11 := Lib.hid (B9.out.trans (hb11.mono B9.out.size))
            have O6 := Lib.hid (O6.out.below hb11)
            have HI2 := Lib.hid (HI.out w11 hb11)
            have O13 := Lib.hid (O13.out.below hb11)
            have HN0 := Lib.hid (Num_any 0 w11)
            clear hb11 HI ha0 ha1 qa B9
            gi_wp2_with fail
            refine (callsIn_wide.2 HN0.out).mono ?_
            rintro e w12 ⟨rfl, rfl⟩
            have ha0 := O13.out.cell 0
            have ha1 := O13.out.cell 1
            have qa := O13.out.lt
            gi_wp2_with fail
            refine (callsIn_wide.2 HI2.out).mono ?_
            rintro e w13 ⟨rfl, hb13⟩
            have B13 := Lib.hid (B11.out.trans (hb13.mono B11.out.size))
            have O6 := Lib.hid (O6.out.below hb13)
            clear hb13 HI2 ha0 ha1 qa
            have h60 := O6.out.cell 0
            have f60 := O6.out.frozen 0
            have q60 := O6.out.lt
            gi_wp2
            exact ⟨.bool true, (by simp [results, Try.results5, go_sem, (O6.out.set 0 (.bool true)).cell 0]), rfl, B13.out.setCell (p := ⟨w.heap.size + 1, 0, none⟩) (by simp) _⟩
          · have hcz' : ((cs.length : Int) == 0) = false := by simpa using hcz
            have B9 := Lib.hid (B6.out.trans (C69.out.mono B6.out.size))
            by_cases hp0 : p = 0
            · subst hp0
              obtain ⟨by', ty, Sy, rfl, hry, hly⟩ := Y1.out rfl
              have HGY : Hid (Good (cs.length : Int) (lists ty)) := by show Good _ (lists ty); rw [hly]; exact HGP.out rfl
              have HI := Lib.hid (IsR_any by' _ ty Sy [] _ _ w9 (hry.below C79.out) HGY.out (M3.out rfl) hly)
              clear hry hly h60' f60 q60 hcz
              gi_wp2_with fail
              refine (callsIn_wide.2 HI.out).mono ?_
              rintro e w11 ⟨rfl, hb11⟩
              have HB11 := Lib.hid hb11
              clear hb11 HI HGY ha0 ha1 qa HNp HPE hPE HGP
              have C11 := Lib.hid (C69.out.trans (HB11.out.mono C69.out.size))
              have B11 := Lib.hid (B9.out.trans (HB11.out.mono B9.out.size))
              have O5 := Lib.hid (O5.out.below HB11.out)
              have O6 := Lib.hid (O6.out.below HB11.out)
              have O10 := Lib.hid (O10.out.below HB11.out)
              have HX11 := Lib.hid (HXR.out.below C11.out)
              have HM11 := Lib.hid (HM1.out.below C11.out)
              have HC11 := Lib.hid (HC.out.below B11.out)
              have hx0 : w11.cell? ⟨g0, o0, none⟩ = some (.slice T0 tl0.length tc0) := by
                have h1 := (HX.out.lst.below B11.out).1 h0n
                obtain ⟨b, o, h2, h3, _, h4⟩ := h1
                injection h2 with h2
                injection h2 with h5 h6
                subst h5 h6
                have := h4 0 _ (List.getElem?_eq_getElem h0n)
                rw [ht0] at this
                exact this
              have ha1 := O10.out.cell 1
              have qa := O10.out.lt
              have hcp : 0 < cs.length := pos_of hcz'
              obtain ⟨z0, hz0⟩ : ∃ z, cs[0]'hcp = z := ⟨_, rfl⟩
              obtain ⟨Cb, Co, rfl, hCw, hCc⟩ := HC.out hcp
              have hCb : Cb < w11.heap.size := Nat.lt_of_lt_of_le hCw B11.out.size
              have hcz0 : w11.cell? ⟨Cb, Co, none⟩ = some (.int .i64 z0) := (B11.out.cell (p := ⟨Cb, Co, none⟩) hCw).trans (hCc 0 z0 (by rw [List.getElem?_eq_getElem hcp, hz0]))
              have HCW := Lib.hid hCw
              have hwq0 : Below w11.heap.size w11 ((w11.alloc (.cells #[.slice none 0 0] 31)).alloc (.cells #[.int .i64 0, .int .i64 0, .string noText] 48)) := ((Below.refl _ _).alloc (Nat.le_refl _) _).alloc (by simp) _
              have hQ15 : Own ((w11.alloc (.cells #[.slice none 0 0] 31)).alloc (.cells #[.int .i64 0, .int .i64 0, .string noText] 48)) (w11.heap.size + 1) 48 [.int .i64 0, .int .i64 0, .string noText] := by
                have h1 := heap_alloc_new (w11.alloc (.cells #[.slice none 0 0] 31)) (.cells #[.int .i64 0, .int .i64 0, .string noText] 48)
                rw [World.size_alloc] at h1
                exact h1
              have hQ14 : Own ((w11.alloc (.cells #[.slice none 0 0] 31)).alloc (.cells #[.int .i64 0, .int .i64 0, .string noText] 48)) w11.heap.size 31 [.slice none 0 0] := by
                have h1 : Own (w11.alloc (.cells #[.slice none 0 0] 31)) w11.heap.size 31 [.slice none 0 0] := heap_alloc_new w11 _
                exact h1.alloc _
              have HCZ := Lib.hid hcz0
              have HA1 := Lib.hid ha1
              have hna6 : tl0.length ≤ 6 := by omega
              have qCb := hCb
              clear hCc hz0
              by_cases hta : 0 < tl0.length
              · obtain ⟨gT, oT, rfl, hgT, hTc⟩ : ∃ b o, T0 = some ⟨b, o, none⟩ ∧ b < w11.heap.size ∧ ∀ (i : Nat) x, tl0[i]? = some x → w11.cell? ⟨b, o + i * 3, none⟩ = some (.int .i64 x.1) ∧ w11.cell? ⟨b, o + i * 3 + 1, none⟩ = some (.int .i64 x.2.1) ∧ w11.cell? ⟨b, o + i * 3 + 2, none⟩ = some (.string x.2.2) := by
                  have h1 := ((HX.out.lst.below B11.out).2 _ (List.getElem_mem h0n)).row
                  rw [ht0] at h1
                  exact h1 hta
                obtain ⟨wq, hwq⟩ : ∃ wq, wq = ((w11.alloc (.cells #[.slice none 0 0] 31)).alloc (.cells #[.int .i64 0, .int .i64 0, .string noText] 48)).drew := ⟨_, rfl⟩
                have hwq1 : Below w11.heap.size w11 wq := by rw [hwq]; exact hwq0.drew
                have a0 := (hwq1.cell (p := ⟨g0, o0, none⟩) (by simpa using World.block_lt_of_cell? _ _ hx0)).trans hx0
                have a1 := (hwq1.cell (p := ⟨Cb, Co, none⟩) hCb).trans hcz0
                have hu : IntKind.u64.wrap (tl0.length : Int) = (tl0.length : Int) := by rw [IntKind.wrap_u64]; omega
                obtain ⟨U, hU, hU0⟩ : ∃ U, IntKind.u64.wrap z0 = U ∧ 0 ≤ U := ⟨_, rfl, by rw [IntKind.wrap_u64]; omega⟩
                obtain ⟨k, hm2, hk⟩ : ∃ k : Nat, U % (tl0.length : Int) = (k : Int) ∧ k < tl0.length := ⟨(U % (tl0.length : Int)).toNat, by rw [Int.toNat_of_nonneg (Int.emod_nonneg _ (by omega))], by have := Int.emod_lt_of_pos U (b := (tl0.length : Int)) (by omega); have := Int.emod_nonneg U (b := (tl0.length : Int)) (by omega); omega⟩
                have hm1 : U.tmod (tl0.length : Int) = (k : Int) := by rw [Int.tmod_eq_emod_of_nonneg hU0]; exact hm2
                have hnz : tl0 ≠ [] := List.length_pos_iff.1 hta
                obtain ⟨d0, d1, d2⟩ := hTc k _ (List.getElem?_eq_getElem hk)
                have e0 := (hwq1.cell (p := ⟨gT, oT + k * 3, none⟩) hgT).trans d0
                have e1 := (hwq1.cell (p := ⟨gT, oT + k * 3 + 1, none⟩) hgT).trans d1
                have e2 := (hwq1.cell (p := ⟨gT, oT + k * 3 + 2, none⟩) hgT).trans d2
                obtain ⟨v, hv⟩ : ∃ v, tl0[k] = v := ⟨_, rfl⟩
                rw [hv] at e0 e1 e2
                have hki : IntKind.i64.wrap (k : Int) = (k : Int) := IntWalk.i64_in _ (by omega)
                have Q15 : Hid (Own wq (w11.heap.size + 1) 48 [.int .i64 0, .int .i64 0, .string noText]) := by rw [hwq]; exact hQ15.below (Below.refl _ _).drew
                have Q14 : Hid (Own wq w11.heap.size 31 [.slice none 0 0]) := by rw [hwq]; exact hQ14.below (Below.refl _ _).drew
                have HBq := Lib.hid hwq1
                have HWq := Lib.hid hwq
                clear hwq1 hwq hwq0 hQ14 hQ15 d0 d1 d2 hTc hcz0 ha1
                gi_wp2_with fail
                refine wpIn_wide.2 ?_
                refine wp_region_still_tail 13 (by kernel_rfl) (by kernel_rfl) ?_
                simp only [List.take_succ_cons, List.take_zero, List.drop_succ_cons, List.drop_zero]
                change wpStill _ _ (World.drew _) _ _ _
                rw [← HWq.out]
                repeat still_step
                refine wpStill_nil ?_
                change wpList _ _ _ _ _ (World.drew _)
                rw [← HWq.out]
                clear a0 a1 e0 e1 e2 hki hm1 hm2 hu hU hU0 hnz hx0
                have t0 := Q15.out.cell 0
                have t1 := Q15.out.cell 1
                have t2 := Q15.out.cell 2
                have f0 := Q15.out.frozen 0
                have f1 := Q15.out.frozen 1
                have f2 := Q15.out.frozen 2
                have qq := Q15.out.lt
                go_upto_region 18 with (fail)
                have hSI : HereI w11 v [] (((wq.setCell ⟨w11.heap.size + 1, 0, none⟩ (.int .i64 v.1)).setCell ⟨w11.heap.size + 1, 1, none⟩ (.int .i64 v.2.1)).setCell ⟨w11.heap.size + 1, 2, none⟩ (.string v.2.2)) := by
                  have kk : Kept [w11.heap.size + 1] wq (((wq.setCell ⟨w11.heap.size + 1, 0, none⟩ (.int .i64 v.1)).setCell ⟨w11.heap.size + 1, 1, none⟩ (.int .i64 v.2.1)).setCell ⟨w11.heap.size + 1, 2, none⟩ (.string v.2.2)) := (((Kept.refl _ wq).setCell (.inl (by simp)) _).setCell (.inl (by simp)) _).setCell (.inl (by simp)) _
                  exact ⟨HBq.out.trans (kk.below HBq.out.size (fun k hk => by simp only [List.mem_singleton] at hk; omega)), ((Q15.out.set 0 (.int .i64 v.1)).set 1 (.int .i64 v.2.1)).set 2 (.string v.2.2), _, [], kk.own Q14.out (by simp), .inl ⟨rfl, rfl, rfl⟩, fun _ h => by cases h⟩
                obtain ⟨wS, hwS⟩ : ∃ wS, wS = ((wq.setCell ⟨w11.heap.size + 1, 0, none⟩ (.int .i64 v.1)).setCell ⟨w11.heap.size + 1, 1, none⟩ (.int .i64 v.2.1)).setCell ⟨w11.heap.size + 1, 2, none⟩ (.string v.2.2) := ⟨_, rfl⟩
                rw [← hwS] at hSI ⊢
                have HSI := Lib.hid hSI
                clear hSI hwS t0 t1 t2 f0 f1 f2 qq Q14 Q15 HBq HWq
                obtain ⟨us, ⟨Au, cu, hmv, _, _, hlu, _, _⟩, hus⟩ := HM11.out
                simp only [rv3, Value.agg.injEq, Array.mk.injEq, List.cons.injEq, Value.slice.injEq, and_true, true_and] at hmv
                obtain ⟨e1, e2, e3⟩ := hmv
                subst e1 e2 e3
                have HU := Lib.hid hlu
                have HUs := Lib.hid hus
                have hul : us.length ≤ 60 := by have := HLx.out; rw [← HUs.out] at this; simpa using this
                have s10 := (HSI.out.low.cell (p := ⟨w5.heap.size, 1, none⟩) qa).trans HA1.out
                have HTl : Hid (∀ t ∈ us, t.2.2.length = tl0.length) := fun t ht => by
                  have := (HGx.out.1 t.2.2 (by rw [← HUs.out]; exact List.mem_map_of_mem ht)).2
                  omega
                obtain ⟨i0, hi0, hzz0, hzs, hzb⟩ := info_parts infoTup
                clear hlu hus
                try refine wpIn_wide.2 ?_
                try go_wp2_with fail
                clear s10
                go_loopw [123] (fun i wr => ∃ k : Nat, k ≤ us.length ∧ i = .int .i64 k ∧ Hid (HereI w11 v ((us.take k).filter fun t => colT z0 v t.2.2) wr)) (fun i _ => us.length - (intOf i).toNat)
                case atStart => exact ⟨0, Nat.zero_le _, rfl, HSI⟩
                case round =>
                  obtain ⟨k, hk, rfl, HH⟩ := hrel
                  by_cases hlt : k < us.length
                  · obtain ⟨gu, ou, hA2, hgu, _, hcu1, hru⟩ := (HU.out.below HH.out.low).at_ hlt
                    subst hA2
                    have hlx := HTl.out us[k] (List.getElem_mem hlt)
                    have HFS := Lib.hid (fil_snoc (p := fun t => colT z0 v t.2.2) hlt)
                    obtain ⟨t, ht⟩ : ∃ t, us[k] = t := ⟨_, rfl⟩
                    rw [ht] at hcu1 hru hlx HFS
                    obtain ⟨X, xc, xl⟩ := t
                    simp only at hru hlx HFS
                    replace hcu1 : wr.cell? ⟨gu, ou + k, none⟩ = some (.slice X xl.length xc) := hcu1
                    have hz := (HH.out.low.cell (p := ⟨Cb, Co, none⟩) hCb).trans HCZ.out
                    have p0 := HH.out.o15.cell 0
                    have p1 := HH.out.o15.cell 1
                    have p2 := HH.out.o15.cell 2
                    have pq := HH.out.o15.lt
                    have hq1 := World.block_lt_of_cell? wr _ hz
                    rw [hlx] at hcu1
                    have HNo : Hid (∀ q, colT z0 v xl = false → HereI w11 v ((us.take (k + 1)).filter fun t => colT z0 v t.2.2) (wr.drewN q)) := fun q h => by
                      rw [HFS.out, h]
                      simpa using HH.out.below (below_drewN (Below.refl _ _) q)
                    clear ht
                    by_cases h0 : 0 ≤ z0
                    · obtain ⟨m, rfl⟩ : ∃ m : Nat, z0 = (m : Int) := ⟨z0.toNat, by omega⟩
                      by_cases h1 : (m : Int) < (tl0.length : Int)
                      · obtain ⟨gx, ox, rfl, hgx, hcs⟩ := hru.row (by omega)
                        obtain ⟨d0, d1, d2⟩ := hcs m _ (List.getElem?_eq_getElem (by omega))
                        have hcol : colT (m : Int) v xl = decide (xl[m]'(by omega) = v) := by
                          have : m < xl.length := by omega
                          simp [colT, this]
                        have HCo := Lib.hid hcol
                        generalize xl[m]'(by omega) = y at d0 d1 d2 HCo
                        clear hcol hru hcs
                        by_cases heq : y = v
                        · subst heq
                          have HY : Hid (colT (m : Int) y xl = true) := by show _ = _; rw [HCo.out]; simp
                          clear HCo HNo
                          have hd0 : decide ((0 : Int) ≤ (m : Int)) = true := by simp
                          have hd1 : decide ((m : Int) < (tl0.length : Int)) = true := decide_eq_true h1
                          obtain ⟨yk, yn, ys⟩ := y
                          simp only at d0 d1 d2 p0 p1 p2
                          go_wp2_with fail
                          go_quiet (fail)
                          have hd := HH.out.below (below_drewN (Below.refl _ _) nq)
                          have hcuD : (wr.drewN nq).cell? ⟨gu, ou + k, none⟩ = some (.slice (some ⟨gx, ox, none⟩) tl0.length xc) := hcu1
                          obtain ⟨wd, hwd⟩ : ∃ wd, wd = wr.drewN nq := ⟨_, rfl⟩
                          rw [← hwd] at hd hcuD ⊢
                          have HD := Lib.hid hd
                          obtain ⟨v14, G, hO, ha, hG⟩ := hd.o14
                          obtain ⟨A0, c0, rfl⟩ := ha.val
                          have hc14 := hO.cell 0
                          have q14 := hO.lt
                          have hfl : ((us.take k).filter fun t => colT (m : Int) (yk, yn, ys) t.2.2).length ≤ 60 := Nat.le_trans (List.length_filter_le _ _) (by rw [List.length_take]; omega)
                          have HOw := Lib.hid ((ha.kept ((Kept.refl [] wd).alloc (.cells #[.slice (some ⟨gx, ox, none⟩) tl0.length xc] 35)) (fun _ _ h => by cases h)).owns)
                          have HA := Lib.hid ha
                          have HO := Lib.hid hO
                          have HG := Lib.hid hG
                          have HNw : Hid (∀ j u, [Value.slice (some ⟨gx, ox, none⟩) tl0.length xc][j]? = some u → (wd.alloc (.cells #[.slice (some ⟨gx, ox, none⟩) tl0.length xc] 35)).cell? ((⟨wd.heap.size, 0, none⟩ : Addr).add j) = some u) := fun j u hj => by
                            have hv : Own (wd.alloc (.cells #[.slice (some ⟨gx, ox, none⟩) tl0.length xc] 35)) wd.heap.size 35 [.slice (some ⟨gx, ox, none⟩) tl0.length xc] := heap_alloc_new wd _
                            rw [Addr.add_lit, Nat.zero_add, hv.cell]
                            exact hj
                          have HXV : Hid (tval ((some ⟨gx, ox, none⟩, xc, xl) : TV) = .slice (some ⟨gx, ox, none⟩) tl0.length xc) := by show Value.slice _ _ _ = _; rw [hlx]
                          clear hd hwd hO ha hG hcu1 hcuD hz p0 p1 p2 d0 d1 d2 hd0 hd1
                          have hb1 : ((us.take k).filter fun t => colT (m : Int) (yk, yn, ys) t.2.2).length + 1 ≤ maxLen := by unfold maxLen; omega
                          have hb2 : (((us.take k).filter fun t => colT (m : Int) (yk, yn, ys) t.2.2).length + 1) * 24 ≤ 140737488355328 := by omega
                          generalize hhs : ((us.take k).filter fun t => colT (m : Int) (yk, yn, ys) t.2.2) = hs at *
                          have hone : ∀ u ∈ [Value.slice (some ⟨gx, ox, none⟩) tl0.length xc], u.oneCell' = true := by simp [Value.oneCell']
                          clear hhs
                          go_wp2_with (at_builtin; refine wpList_append_own_at _ rfl _ _ 31 rfl 0 35 i0 _ 1 24 Try.underlying31 hi0 hzz0 hzs hzb rfl (by decide) (.slice A0 hs.length c0) hs.length (hs.map tval) rfl HOw.out ⟨wd.heap.size, 0, none⟩ 1 1 [.slice (some ⟨gx, ox, none⟩) tl0.length xc] rfl rfl HNw.out hone hb1 hb2 (Nat.zero_le _) ?_; intro v' w1 ho hg _ hat; obtain ⟨g1, cap1, rfl⟩ := owns_val ho; rw [← HXV.out] at ho; obtain ⟨hst, k1⟩ := HD.out.step HO.out HA.out HG.out ho hg hat; have HQ := Lib.hid hst; have h1 := k1.cell 0; have f1 := k1.frozen 0; have q3 := k1.lt; clear ho hg hat k1 hst)
                          go_roundw
                          case rel => exact ⟨k + 1, by omega, by go_num, by rw [HFS.out, HY.out]; exact HQ⟩
                          case measure => simp [intOf]; omega
                        · have HN : Hid (colT (m : Int) v xl = false) := by show _ = _; rw [HCo.out]; exact decide_eq_false heq
                          have kn := fun w => eql3 heq w
                          have hd0 : decide ((0 : Int) ≤ (m : Int)) = true := by simp
                          have hd1 : decide ((m : Int) < (tl0.length : Int)) = true := decide_eq_true h1
                          obtain ⟨yk, yn, ys⟩ := y
                          obtain ⟨vk, vn, vs⟩ := v
                          simp only at d0 d1 d2 p0 p1 p2
                          clear heq HCo
                          go_wp2_with fail
                          go_quiet (fail)
                          have HQ := Lib.hid (HNo.out nq HN.out)
                          clear HNo hcu1 hz p0 p1 p2 d0 d1 d2 hd0 hd1 kn
                          go_wp2
                          go_roundw
                          case rel => exact ⟨k + 1, by omega, by go_num, HQ⟩
                          case measure => simp [intOf]; omega
                      · have HN : Hid (colT (m : Int) v xl = false) := by show _ = _; simp [colT, hlx, h1]
                        have hd0 : decide ((0 : Int) ≤ (m : Int)) = true := by simp
                        have hd1 : decide (m < tl0.length) = false := decide_eq_false (by omega)
                        clear h1 hru
                        go_wp2_with fail
                        go_quiet (fail)
                        have HQ := Lib.hid (HNo.out nq HN.out)
                        clear HNo hcu1 hz p0 p1 p2 hd0 hd1
                        go_wp2
                        go_roundw
                        case rel => exact ⟨k + 1, by omega, by go_num, HQ⟩
                        case measure => simp [intOf]; omega
                    · have HN : Hid (colT z0 v xl = false) := by show _ = _; simp [colT, h0]
                      have hd0 : decide (0 ≤ z0) = false := decide_eq_false h0
                      clear h0 hru
                      go_wp2_with fail
                      go_quiet (fail)
                      have HQ := Lib.hid (HNo.out nq HN.out)
                      clear HNo hcu1 hz p0 p1 p2 hd0
                      go_wp2
                      go_roundw
                      case rel => exact ⟨k + 1, by omega, by go_num, HQ⟩
                      case measure => simp [intOf]; omega
                  · have hkl : k = us.length := by omega
                    subst hkl
                    have hq0 : ((us.take us.length).filter fun t => colT z0 v t.2.2) = us.filter fun t => colT z0 v t.2.2 := by rw [List.take_length]
                    rw [hq0] at HH
                    have HFl : Hid (lists (us.filter fun t => colT z0 v t.2.2) = L.filter (colT z0 v)) := by show _ = _; rw [lists_filter (colT z0 v) us, HUs.out]
                    have hml : ∀ t ∈ us.filter fun t => colT z0 v t.2.2, t ∈ us := fun t ht => (List.mem_filter.1 ht).1
                    have HRo : Hid (∀ t ∈ us.filter fun t => colT z0 v t.2.2, RowO [] wr t.1 t.2.2) := fun t ht => (HU.out.below HH.out.low).2 t (hml t ht)
                    have hhl : (us.filter fun t => colT z0 v t.2.2).length ≤ us.length := List.length_filter_le _ _
                    clear hq0 hml
                    generalize (us.filter fun t => colT z0 v t.2.2) = hs at HH HFl HRo hhl
                    obtain ⟨v14, G, hO, ha, hG⟩ := HH.out.o14
                    obtain ⟨A0, c0, rfl⟩ := ha.val
                    have ⟨A1, c1, hval, hA1, hlst, _⟩ := ha.lst [] (fun _ _ h => by cases h) HRo.out
                    injection hval with hv1 _ hv2
                    subst hv1 hv2
                    have HLs := Lib.hid hlst
                    have HO14 := Lib.hid hO
                    have HO5 := Lib.hid (O5.out.below HH.out.low)
                    have hc5 := HO5.out.cell 0
                    have f5 := HO5.out.frozen 0
                    have q5 := HO5.out.lt
                    obtain ⟨stp, hst, hs1, hs10⟩ := stop_range st
                    have HST := Lib.hid hst
                    clear hlst hO ha hG hst
                    go_wp2_with fail
                    rw [HST.out]
                    clear hc5 f5 q5
                    have hlow := HH.out.low.size
                    have h6lt := O6.out.lt
                    have hcz1 := (HH.out.low.cell (p := ⟨Cb, Co, none⟩) hCb).trans HCZ.out
                    have hcb1 := World.block_lt_of_cell? wr _ hcz1
                    obtain ⟨hr26, hu26⟩ := rel_set (y := (stp : Int)) (HX11.out.below HH.out.low) HLs.out HO5.out
                    have kb : Kept [w.heap.size] wr (wr.setCell ⟨w.heap.size, 0, none⟩ (.int .i64 (stp : Int))) := (Kept.refl _ wr).setCell (.inl (by simp)) _
                    have hbA : Below (wr.setCell ⟨w.heap.size, 0, none⟩ (.int .i64 (stp : Int))).heap.size (wr.setCell ⟨w.heap.size, 0, none⟩ (.int .i64 (stp : Int))) ((wr.setCell ⟨w.heap.size, 0, none⟩ (.int .i64 (stp : Int))).alloc (.cells #[.int .i64 0] 3)).drew := ((Below.refl _ _).alloc (Nat.le_refl _) _).drew
                    have o18 : Own ((wr.setCell ⟨w.heap.size, 0, none⟩ (.int .i64 (stp : Int))).alloc (.cells #[.int .i64 0] 3)).drew wr.heap.size 3 [.int .i64 0] := by
                      have h1 : Own ((wr.setCell ⟨w.heap.size, 0, none⟩ (.int .i64 (stp : Int))).alloc (.cells #[.int .i64 0] 3)) (wr.setCell ⟨w.heap.size, 0, none⟩ (.int .i64 (stp : Int))).heap.size 3 [.int .i64 0] := heap_alloc_new _ _
                      rw [show (wr.setCell ⟨w.heap.size, 0, none⟩ (.int .i64 (stp : Int))).heap.size = wr.heap.size by simp] at h1
                      exact h1.below (Below.refl _ _).drew
                    have hlow26 : Below w.heap.size w ((wr.setCell ⟨w.heap.size, 0, none⟩ (.int .i64 (stp : Int))).alloc (.cells #[.int .i64 0] 3)).drew := ((((B11.out.trans (HH.out.low.mono B11.out.size)).setCell (p := ⟨w.heap.size, 0, none⟩) (Nat.le_refl _) _).alloc (by have := B11.out.size; simp; omega) _).drew)
                    have hI26 : ClI w bx w11.heap.size wr.heap.size (tl0.length : Int) (stp : Int) A0 c0 tx hs Sx 0 ((wr.setCell ⟨w.heap.size, 0, none⟩ (.int .i64 (stp : Int))).alloc (.cells #[.int .i64 0] 3)).drew :=
                      ⟨hr26.below hbA, hu26.below hbA, (HO5.out.set 0 _).below hbA, (kb.own (O6.out.below HH.out.low) (by simp)).below hbA, (kb.own HO14.out (by simp only [List.mem_singleton]; omega)).below hbA, o18, hlow26⟩
                    have z0w : w.cell? ⟨Cb, Co, none⟩ = some (.int .i64 z0) := (B11.out.cell (p := ⟨Cb, Co, none⟩) HCW.out).symm.trans HCZ.out
                    have z26 := (hlow26.cell (p := ⟨Cb, Co, none⟩) HCW.out).trans z0w
                    have hv26 : Own ((wr.setCell ⟨w.heap.size, 0, none⟩ (.int .i64 (stp : Int))).alloc (.cells #[.int .i64 0] 3)).drew (w11.heap.size + 1) 48 [.int .i64 v.1, .int .i64 v.2.1, .string v.2.2] := (kb.own HH.out.o15 (by simp only [List.mem_singleton]; omega)).below hbA
                    have hs26 : ((wr.setCell ⟨w.heap.size, 0, none⟩ (.int .i64 (stp : Int))).alloc (.cells #[.int .i64 0] 3)).drew.heap.size = wr.heap.size + 1 := by
                      show (World.alloc _ _).heap.size = _
                      simp
                    obtain ⟨wq, hwq⟩ : ∃ wq, wq = ((wr.setCell ⟨w.heap.size, 0, none⟩ (.int .i64 (stp : Int))).alloc (.cells #[.int .i64 0] 3)).drew := ⟨_, rfl⟩
                    rw [← hwq] at hI26 z26 hv26 hs26
                    have HI26 := Lib.hid hI26
                    have HS26 := Lib.hid hs26
                    have HW26 := Lib.hid hwq
                    have p0 := hv26.cell 0
                    have p1 := hv26.cell 1
                    have p2 := hv26.cell 2
                    have pq := hv26.lt
                    have hq1 := World.block_lt_of_cell? wq _ z26
                    have HR26 : Hid (∀ t ∈ tx, RowO [w.heap.size + 1, wr.heap.size] wq t.1 t.2.2) := fun t ht => by
                      have h1 := ((hI26.r.rows t ht).off_box hI26.o6)
                      have h2 := (h1.off_box hI26.o18)
                      exact h2.fewer (fun k hk => .inl (by simp only [List.mem_cons, List.not_mem_nil, or_false] at hk; rcases hk with rfl | rfl <;> simp))
                    have HWh := Lib.hid (fun W => Where_any bx z0 v W)
                    clear hwq hI26 z0w hs26 hv26 kb hbA o18 hlow26 hr26 hu26 hcz1
                    refine wp_region_still_tail 5 (by kernel_rfl) (by kernel_rfl) ?_
                    simp only [List.take_succ_cons, List.take_zero, List.drop_succ_cons, List.drop_zero]
                    change wpStill _ _ (World.drew _) _ _ _
                    rw [← HW26.out]
                    repeat still_step
                    refine wpStill_nil ?_
                    change wpList _ _ _ _ _ (World.drew _)
                    rw [← HW26.out]
                    clear p0 p1 p2 pq z26 hq1
                    go_wp2_with fail
                    refine (HWh.out _).mono ?_
                    rintro e w30 ⟨rfl, hw30⟩
                    obtain ⟨hb30, o30z, o30v, o30b, o30f⟩ := where_mem wq w30 bx z0 v _ hw30
                    have HI30 := Lib.hid (HI26.out.below hb30)
                    have HR30 : Hid (∀ t ∈ tx, RowO [w.heap.size + 1, wr.heap.size] w30 t.1 t.2.2) := fun t ht => (HR26.out t ht).below hb30
                    have OZ := Lib.hid o30z
                    have OV := Lib.hid o30v
                    have OB := Lib.hid o30b
                    have OF := Lib.hid o30f
                    have HS30 := Lib.hid hb30.size
                    have HGt : Hid (Good (tl0.length : Int) (lists tx)) := HGX
                    have hlow30 : w.heap.size ≤ w30.heap.size := HI30.out.low.size
                    have HFx : Hid ((lists tx).filter (colT z0 v) = lists hs) := by show _ = _; rw [HXL.out, HFl.out]
                    clear hw30 hb30 o30z o30v o30b o30f HWh HW26 HI26 HR26 HU HTl HUs HX HX11 HM11 HO5 HO14 HLs HRo
                    have hq18 : w.heap.size + 2 ≤ wr.heap.size := by omega
                    have hq14 : w11.heap.size ≠ wr.heap.size := by have := HH.out.o15.lt; omega
                    go_wp2_with fail
                    refine (wpIn_wide (n := 9)).1 ?_
                    refine' range_law (Kp := Kf [w.heap.size + 1] wr.heap.size 0) (Px := Yd [w.heap.size + 1] wr.heap.size 0 0 (lists hs)) (S := fun ys => lists ys = lists hs) (Sp := fun pre => lists pre <+: lists hs) (encs := fun x : TV => #[tval x]) rfl (by omega) (gf := 75) (lb := #[.pointer (some ⟨wq.heap.size + 2, 0, none⟩), .pointer (some ⟨wq.heap.size + 3, 0, none⟩)]) rfl n75 (enters_of Try.func75 (by kernel_rfl) rfl)
                      ?seq (fun h h' => h.trans h') (fun U V hU hc => Kf.of_calm hc (by have := HS26.out; have := HS30.out; omega) (by have := HS26.out; have := HS30.out; omega)) (fun _ => rfl)
                      (fun pre W => pre.length < stp ∧ ClI w bx w11.heap.size wr.heap.size (tl0.length : Int) (stp : Int) A0 c0 tx hs Sx pre.length W) (fun c pre W => c = Code.exit 2 ∧ pre.length = stp ∧ ClI w bx w11.heap.size wr.heap.size (tl0.length : Int) (stp : Int) A0 c0 tx hs Sx pre.length W) (fun pre U V h hc => ⟨h.1, h.2.calm hc hlow30⟩) (fun c pre U V h hc => ⟨h.1, h.2.1, h.2.2.calm hc hlow30⟩)
                      (fun pre x U V h hc => ?px) ⟨by simp; omega, HI30.out⟩ _ ?assign ?body ?done ?stop
                    case assign =>
                      intro l x W K hK
                      gi_wp2
                      exact hK
                    case px =>
                      obtain ⟨h1, h2, h3, h4, h5⟩ := h
                      refine ⟨h1, ?_, h3, Nat.lt_of_lt_of_le h4 hc.size, h5⟩
                      rw [foot_same (calm_cell hc h4 (by have := HS26.out; have := HS30.out; omega))]
                      exact h2.calm hc
                    case seq =>
                      intro l J Jx W hW hJ hJx hY h0
                      have hIW := HI30.out.below hW
                      obtain ⟨A1, c1, ho1, hA1, hl1, _⟩ := hIW.r.open_
                      have hfW : footL [w.heap.size + 1] wr.heap.size 0 W = [w.heap.size + 1] ++ [wr.heap.size] := foot_int _ (hIW.o18.cell 0)
                      have h7 : wr.heap.size < W.heap.size := hIW.o18.lt
                      have hs26 := HS26.out
                      have hnf : ∀ j, wq.heap.size + j ∉ footL [w.heap.size + 1] wr.heap.size 0 W := fun j hm => by
                        rw [hfW] at hm
                        simp only [List.cons_append, List.nil_append, List.mem_cons, List.not_mem_nil, or_false] at hm
                        omega
                      have hth := those_in 8 (by omega) l [w.heap.size + 1] wr.heap.size 0 0 (wq.heap.size + 2) (wq.heap.size + 3) 59 (rp bx) #[] #[.pointer (some ⟨wq.heap.size, 0, none⟩), .pointer (some ⟨wq.heap.size + 1, 0, none⟩)] A1 c1 tx (colT z0 v) J Jx W (Nat.zero_le _) h7 ((OB.out.below hW).cell 0) ((OF.out.below hW).cell 0) (hnf 3)
                        (fun W' hb' => list_at bx _ _ W' ((Calm.of_below 0 hb').own ho1) A1 tx.length c1 rfl) hA1 hl1 (fun t ht => ⟨by rw [hfW]; exact (HR30.out t ht).below hW, by
                          obtain ⟨_, _, _, _, _, _, hh⟩ := hIW.r
                          exact (hh t ht).2, by
                          have := right_six (HGt.out.1 _ (List.mem_map_of_mem ht)).1
                          omega⟩) HGt.out.len (fun k hk => by
                          rw [hfW] at hk
                          simp only [List.cons_append, List.nil_append, List.mem_cons, List.not_mem_nil, or_false] at hk
                          omega) (enters_of Try.func59 (by kernel_rfl) rfl) (fun t W' ht hk hr => by
                          have k1 := hk.own (OZ.out.below hW) (hnf 0)
                          have k2 := hk.own (OV.out.below hW) (hnf 1)
                          refine Where1_any wq.heap.size (wq.heap.size + 1) z0 v t W' (k1.cell 0) ⟨k2.cell 0, k2.cell 1, k2.cell 2⟩ ?_ hr
                          have := right_six (HGt.out.1 _ (List.mem_map_of_mem ht)).1
                          unfold maxLen
                          omega) hJ hJx (by rw [HFx.out]; exact hY) h0
                      rw [HFx.out] at hth
                      exact hth
                    case body =>
                      rintro l pre ⟨T, tq, tl⟩ W ⟨hlts, hI⟩ ⟨hpre, hx, hxn, _, _⟩
                      have hdrop := drop_next hpre
                      simp only at hdrop hx
                      have hkh : pre.length < hs.length := by
                        have := hpre.length_le
                        simp only [List.length_map, List.length_append, List.length_singleton] at this
                        omega
                      obtain ⟨g, o, hAe, hgw, _, hc, hr⟩ := hI.u.at_ hkh
                      subst hAe
                      have he1 : hs[pre.length].2.2 = tl := by
                        have h2 : (lists hs)[pre.length]? = some tl := by
                          have := congrArg (fun q => q[0]?) hdrop
                          simpa [List.getElem?_drop] using this
                        simp [hkh] at h2
                        exact h2
                      generalize hs[pre.length] = t at hc hr he1
                      obtain ⟨Uu, uc, ul⟩ := t
                      simp only at he1 hr
                      subst he1
                      replace hc : W.cell? ⟨g, o + pre.length, none⟩ = some (.slice Uu ul.length uc) := hc
                      have htl : ul ∈ L := by
                        have h1 : ul ∈ (lists hs).drop pre.length := by rw [hdrop]; exact List.mem_cons_self ..
                        have h2 := List.mem_of_mem_drop h1
                        rw [HFl.out] at h2
                        exact (List.mem_filter.1 h2).1
                      have HSm := Lib.hid (Same_any T Uu tq uc ul (right_fit (HGx.out.1 ul htl).1) W hx.row hr.row)
                      have h50 := hI.o18.cell 0
                      have q50 := hI.o18.lt
                      have h31 := hI.o14.cell 0
                      have q30 := hI.o14.lt
                      have HI0 := Lib.hid hI
                      have hk0 : (pre.length : Int) < (hs.length : Int) := by omega
                      have hk00 : (0 : Int) ≤ (pre.length : Int) := by omega
                      clear hI hx hr hdrop hpre htl
                      gi_wp2_with fail
                      refine (CallsIn.inRound l (callsIn_wide.2 HSm.out)).mono ?_
                      rintro e u1 ⟨rfl, b1⟩
                      have HI1 := Lib.hid (HI0.out.below b1)
                      have B1 := Lib.hid b1
                      clear b1 h50 q50 h31 q30 hc HSm
                      have h50 := HI1.out.o18.cell 0
                      have f50 := HI1.out.o18.frozen 0
                      have q50 := HI1.out.o18.lt
                      have h5 := HI1.out.o5.cell 0
                      have q5 := HI1.out.o5.lt
                      have h18 : wr.heap.size ≠ w.heap.size := by omega
                      have HQ : Hid (KeepsFrom w30.heap.size W (u1.setCell ⟨wr.heap.size, 0, none⟩ (.int .i64 ((pre.length : Int) + 1))) ∧ Kf [w.heap.size + 1] wr.heap.size 0 W (u1.setCell ⟨wr.heap.size, 0, none⟩ (.int .i64 ((pre.length : Int) + 1))) ∧
                          ClI w bx w11.heap.size wr.heap.size (tl0.length : Int) (stp : Int) (some ⟨g, o, none⟩) c0 tx hs Sx (pre ++ [((T, tq, ul) : TV)]).length (u1.setCell ⟨wr.heap.size, 0, none⟩ (.int .i64 ((pre.length : Int) + 1)))) := by
                        have e2 : (((pre ++ [((T, tq, ul) : TV)]).length : Nat) : Int) = (pre.length : Int) + 1 := by simp
                        have hb5 := HI1.out.bump hq18 hq14 (pre ++ [((T, tq, ul) : TV)]).length
                        rw [e2] at hb5
                        have kall : Kept [wr.heap.size] W (u1.setCell ⟨wr.heap.size, 0, none⟩ (.int .i64 ((pre.length : Int) + 1))) := (Kept.of _ B1.out).trans ((Kept.refl _ u1).setCell (.inl (by simp)) _) (Sub.refl _ _)
                        have hf0 : footL [w.heap.size + 1] wr.heap.size 0 W = [w.heap.size + 1] ++ [wr.heap.size] := foot_int _ (HI0.out.o18.cell 0)
                        have hf5 := foot_int [w.heap.size + 1] (hb5.o18.cell 0)
                        refine ⟨kall.keeps (fun k hk q hq => ?_) _, Kf.of_kept kall (fun k hk => by rw [hf0]; simp only [List.mem_singleton] at hk; simp [hk]) (by rw [hf5, hf0]; exact Sub.refl _ _) (fun k hk => by
                            rw [hf5] at hk
                            simp only [List.cons_append, List.nil_append, List.mem_cons, List.not_mem_nil, or_false] at hk
                            rcases hk with rfl | rfl
                            · exact hb5.o6.lt
                            · exact hb5.o18.lt), hb5⟩
                        simp only [List.mem_singleton] at hk
                        subst hk
                        have h8 := HI0.out.o18
                        unfold Own at h8
                        rw [h8] at hq
                        cases hq
                        rfl
                      by_cases hq : pre.length + 1 = stp
                      · have hqi : ((pre.length : Int) + 1 == (stp : Int)) = true := by rw [← hq]; simp
                        gi_wp2_with fail
                        exact ⟨HQ.out.1, rfl, by simpa using hq, HQ.out.2.2⟩
                      · have hqi : ((pre.length : Int) + 1 == (stp : Int)) = false := by simp only [beq_eq_false_iff_ne]; omega
                        gi_wp2_with fail
                        exact ⟨HQ.out.1, HQ.out.2.1, by simp only [List.length_append, List.length_singleton]; omega, HQ.out.2.2⟩
                    case done =>
                      rintro D ys W hD hys ⟨hlts, hI⟩ hK
                      have e1 : ys.length = hs.length := by have := congrArg List.length hys; simpa using this
                      rw [e1] at hI hlts
                      have h50 := hI.o18.cell 0
                      have q50 := hI.o18.lt
                      have h31 := hI.o14.cell 0
                      have q30 := hI.o14.lt
                      have h5 := hI.o5.cell 0
                      have q5 := hI.o5.lt
                      have h40 := hI.o6.cell 0
                      have f40 := hI.o6.frozen 0
                      have q40 := hI.o6.lt
                      have HII := Lib.hid hI
                      have HKD := Lib.hid hK
                      have HD := Lib.hid hD
                      have hmn : min (stp : Int) (hs.length : Int) = (hs.length : Int) := by omega
                      clear hI hK hys e1 hD
                      go_wp2
                      have hK2 : (W.setCell ⟨w.heap.size + 1, 0, none⟩ (.bool true)).heap[D]? = some (.deferred (some [])) := (KeepsOthers.setCell _ _ _).same D _ HKD.out rfl
                      have hO4 := HII.out.o6.set 0 (.bool true)
                      have hcm : Calm w30.heap.size (W.setCell ⟨w.heap.size + 1, 0, none⟩ (.bool true)) ((W.setCell ⟨w.heap.size + 1, 0, none⟩ (.bool true)).putObj D (.deferred none)) := Calm.put _ hK2 rfl HD.out
                      refine ⟨by simp, .inl ⟨_, _, rfl, run_takeDeferred hK2, ?_⟩⟩
                      exact ⟨.bool true, (by simp [results, Try.results5, go_sem, (hcm.own hO4).cell 0]), rfl, Below.calm (HII.out.low.setCell (p := ⟨w.heap.size + 1, 0, none⟩) (by simp) _) hcm (Nat.le_refl _) hlow30⟩
                    case stop =>
                      rintro D c pre W hD hpre ⟨rfl, hps, hI⟩ hK
                      have e1 : pre.length ≤ hs.length := by have := hpre.length_le; simpa using this
                      subst hps
                      have h50 := hI.o18.cell 0
                      have q50 := hI.o18.lt
                      have h31 := hI.o14.cell 0
                      have q30 := hI.o14.lt
                      have h5 := hI.o5.cell 0
                      have q5 := hI.o5.lt
                      have h40 := hI.o6.cell 0
                      have f40 := hI.o6.frozen 0
                      have q40 := hI.o6.lt
                      have HII := Lib.hid hI
                      have HKD := Lib.hid hK
                      have HD := Lib.hid hD
                      have hmn : min (pre.length : Int) (hs.length : Int) = (pre.length : Int) := by omega
                      clear hI hK hpre hD
                      gi_wp2
                      go_wp2
                      have hK2 : (W.setCell ⟨w.heap.size + 1, 0, none⟩ (.bool true)).heap[D]? = some (.deferred (some [])) := (KeepsOthers.setCell _ _ _).same D _ HKD.out rfl
                      have hO4 := HII.out.o6.set 0 (.bool true)
                      have hcm : Calm w30.heap.size (W.setCell ⟨w.heap.size + 1, 0, none⟩ (.bool true)) ((W.setCell ⟨w.heap.size + 1, 0, none⟩ (.bool true)).putObj D (.deferred none)) := Calm.put _ hK2 rfl HD.out
                      refine ⟨by simp, .inl ⟨_, _, rfl, run_takeDeferred hK2, ?_⟩⟩
                      exact ⟨.bool true, (by simp [results, Try.results5, go_sem, (hcm.own hO4).cell 0]), rfl, Below.calm (HII.out.low.setCell (p := ⟨w.heap.size + 1, 0, none⟩) (by simp) _) hcm (Nat.le_refl _) hlow30⟩
              · have hSI : HereI w11 (0, 0, noText) [] ((w11.alloc (.cells #[.slice none 0 0] 31)).alloc (.cells #[.int .i64 0, .int .i64 0, .string noText] 48)) := ⟨hwq0, hQ15, _, [], hQ14, .inl ⟨rfl, rfl, rfl⟩, fun _ h => by cases h⟩
                clear hwq0 hQ14 hQ15 hcz0 hx0
                gi_wp2_with fail
                refine wpIn_wide.2 ?_
                clear ha1
                obtain ⟨v, hv⟩ : ∃ v : V3, v = (0, 0, noText) := ⟨_, rfl⟩
                rw [← hv] at hSI
                clear hv
                obtain ⟨wS, hwS⟩ : ∃ wS, wS = (w11.alloc (.cells #[.slice none 0 0] 31)).alloc (.cells #[.int .i64 0, .int .i64 0, .string noText] 48) := ⟨_, rfl⟩
                rw [← hwS] at hSI ⊢
                have HSI := Lib.hid hSI
                clear hSI hwS
                obtain ⟨us, ⟨Au, cu, hmv, _, _, hlu, _, _⟩, hus⟩ := HM11.out
                simp only [rv3, Value.agg.injEq, Array.mk.injEq, List.cons.injEq, Value.slice.injEq, and_true, true_and] at hmv
                obtain ⟨e1, e2, e3⟩ := hmv
                subst e1 e2 e3
                have HU := Lib.hid hlu
                have HUs := Lib.hid hus
                have hul : us.length ≤ 60 := by have := HLx.out; rw [← HUs.out] at this; simpa using this
                have s10 := (HSI.out.low.cell (p := ⟨w5.heap.size, 1, none⟩) qa).trans HA1.out
                have HTl : Hid (∀ t ∈ us, t.2.2.length = tl0.length) := fun t ht => by
                  have := (HGx.out.1 t.2.2 (by rw [← HUs.out]; exact List.mem_map_of_mem ht)).2
                  omega
                obtain ⟨i0, hi0, hzz0, hzs, hzb⟩ := info_parts infoTup
                clear hlu hus
                try refine wpIn_wide.2 ?_
                try go_wp2_with fail
                clear s10
                go_loopw [123] (fun i wr => ∃ k : Nat, k ≤ us.length ∧ i = .int .i64 k ∧ Hid (HereI w11 v ((us.take k).filter fun t => colT z0 v t.2.2) wr)) (fun i _ => us.length - (intOf i).toNat)
                case atStart => exact ⟨0, Nat.zero_le _, rfl, HSI⟩
                case round =>
                  obtain ⟨k, hk, rfl, HH⟩ := hrel
                  by_cases hlt : k < us.length
                  · obtain ⟨gu, ou, hA2, hgu, _, hcu1, hru⟩ := (HU.out.below HH.out.low).at_ hlt
                    subst hA2
                    have hlx := HTl.out us[k] (List.getElem_mem hlt)
                    have HFS := Lib.hid (fil_snoc (p := fun t => colT z0 v t.2.2) hlt)
                    obtain ⟨t, ht⟩ : ∃ t, us[k] = t := ⟨_, rfl⟩
                    rw [ht] at hcu1 hru hlx HFS
                    obtain ⟨X, xc, xl⟩ := t
                    simp only at hru hlx HFS
                    replace hcu1 : wr.cell? ⟨gu, ou + k, none⟩ = some (.slice X xl.length xc) := hcu1
                    have hz := (HH.out.low.cell (p := ⟨Cb, Co, none⟩) hCb).trans HCZ.out
                    have p0 := HH.out.o15.cell 0
                    have p1 := HH.out.o15.cell 1
                    have p2 := HH.out.o15.cell 2
                    have pq := HH.out.o15.lt
                    have hq1 := World.block_lt_of_cell? wr _ hz
                    rw [hlx] at hcu1
                    have HNo : Hid (∀ q, colT z0 v xl = false → HereI w11 v ((us.take (k + 1)).filter fun t => colT z0 v t.2.2) (wr.drewN q)) := fun q h => by
                      rw [HFS.out, h]
                      simpa using HH.out.below (below_drewN (Below.refl _ _) q)
                    clear ht
                    by_cases h0 : 0 ≤ z0
                    · obtain ⟨m, rfl⟩ : ∃ m : Nat, z0 = (m : Int) := ⟨z0.toNat, by omega⟩
                      by_cases h1 : (m : Int) < (tl0.length : Int)
                      · exact absurd h1 (by omega)
                      · have HN : Hid (colT (m : Int) v xl = false) := by show _ = _; simp [colT, hlx, h1]
                        have hd0 : decide ((0 : Int) ≤ (m : Int)) = true := by simp
                        have hd1 : decide (m < tl0.length) = false := decide_eq_false (by omega)
                        clear h1 hru
                        go_wp2_with fail
                        go_quiet (fail)
                        have HQ := Lib.hid (HNo.out nq HN.out)
                        clear HNo hcu1 hz p0 p1 p2 hd0 hd1
                        go_wp2
                        go_roundw
                        case rel => exact ⟨k + 1, by omega, by go_num, HQ⟩
                        case measure => simp [intOf]; omega
                    · have HN : Hid (colT z0 v xl = false) := by show _ = _; simp [colT, h0]
                      have hd0 : decide (0 ≤ z0) = false := decide_eq_false h0
                      clear h0 hru
                      go_wp2_with fail
                      go_quiet (fail)
                      have HQ := Lib.hid (HNo.out nq HN.out)
                      clear HNo hcu1 hz p0 p1 p2 hd0
                      go_wp2
                      go_roundw
                      case rel => exact ⟨k + 1, by omega, by go_num, HQ⟩
                      case measure => simp [intOf]; omega
                  · have hkl : k = us.length := by omega
                    subst hkl
                    have hq0 : ((us.take us.length).filter fun t => colT z0 v t.2.2) = us.filter fun t => colT z0 v t.2.2 := by rw [List.take_length]
                    rw [hq0] at HH
                    have HFl : Hid (lists (us.filter fun t => colT z0 v t.2.2) = L.filter (colT z0 v)) := by show _ = _; rw [lists_filter (colT z0 v) us, HUs.out]
                    have hml : ∀ t ∈ us.filter fun t => colT z0 v t.2.2, t ∈ us := fun t ht => (List.mem_filter.1 ht).1
                    have HRo : Hid (∀ t ∈ us.filter fun t => colT z0 v t.2.2, RowO [] wr t.1 t.2.2) := fun t ht => (HU.out.below HH.out.low).2 t (hml t ht)
                    have hhl : (us.filter fun t => colT z0 v t.2.2).length ≤ us.length := List.length_filter_le _ _
                    clear hq0 hml
                    generalize (us.filter fun t => colT z0 v t.2.2) = hs at HH HFl HRo hhl
                    obtain ⟨v14, G, hO, ha, hG⟩ := HH.out.o14
                    obtain ⟨A0, c0, rfl⟩ := ha.val
                    have ⟨A1, c1, hval, hA1, hlst, _⟩ := ha.lst [] (fun _ _ h => by cases h) HRo.out
                    injection hval with hv1 _ hv2
                    subst hv1 hv2
                    have HLs := Lib.hid hlst
                    have HO14 := Lib.hid hO
                    have HO5 := Lib.hid (O5.out.below HH.out.low)
                    have hc5 := HO5.out.cell 0
                    have f5 := HO5.out.frozen 0
                    have q5 := HO5.out.lt
                    obtain ⟨stp, hst, hs1, hs10⟩ := stop_range st
                    have HST := Lib.hid hst
                    clear hlst hO ha hG hst
                    go_wp2_with fail
                    refine wpIn_wide.2 ?_
                    go_wp2_with fail
                    rw [HST.out]
                    clear hc5 f5 q5
                    have hlow := HH.out.low.size
                    have h6lt := O6.out.lt
                    have hcz1 := (HH.out.low.cell (p := ⟨Cb, Co, none⟩) hCb).trans HCZ.out
                    have hcb1 := World.block_lt_of_cell? wr _ hcz1
                    obtain ⟨hr26, hu26⟩ := rel_set (y := (stp : Int)) (HX11.out.below HH.out.low) HLs.out HO5.out
                    have kb : Kept [w.heap.size] wr (wr.setCell ⟨w.heap.size, 0, none⟩ (.int .i64 (stp : Int))) := (Kept.refl _ wr).setCell (.inl (by simp)) _
                    have hbA : Below (wr.setCell ⟨w.heap.size, 0, none⟩ (.int .i64 (stp : Int))).heap.size (wr.setCell ⟨w.heap.size, 0, none⟩ (.int .i64 (stp : Int))) ((wr.setCell ⟨w.heap.size, 0, none⟩ (.int .i64 (stp : Int))).alloc (.cells #[.int .i64 0] 3)).drew := ((Below.refl _ _).alloc (Nat.le_refl _) _).drew
                    have o18 : Own ((wr.setCell ⟨w.heap.size, 0, none⟩ (.int .i64 (stp : Int))).alloc (.cells #[.int .i64 0] 3)).drew wr.heap.size 3 [.int .i64 0] := by
                      have h1 : Own ((wr.setCell ⟨w.heap.size, 0, none⟩ (.int .i64 (stp : Int))).alloc (.cells #[.int .i64 0] 3)) (wr.setCell ⟨w.heap.size, 0, none⟩ (.int .i64 (stp : Int))).heap.size 3 [.int .i64 0] := heap_alloc_new _ _
                      rw [show (wr.setCell ⟨w.heap.size, 0, none⟩ (.int .i64 (stp : Int))).heap.size = wr.heap.size by simp] at h1
                      exact h1.below (Below.refl _ _).drew
                    have hlow26 : Below w.heap.size w ((wr.setCell ⟨w.heap.size, 0, none⟩ (.int .i64 (stp : Int))).alloc (.cells #[.int .i64 0] 3)).drew := ((((B11.out.trans (HH.out.low.mono B11.out.size)).setCell (p := ⟨w.heap.size, 0, none⟩) (Nat.le_refl _) _).alloc (by have := B11.out.size; simp; omega) _).drew)
                    have hI26 : ClI w bx w11.heap.size wr.heap.size (tl0.length : Int) (stp : Int) A0 c0 tx hs Sx 0 ((wr.setCell ⟨w.heap.size, 0, none⟩ (.int .i64 (stp : Int))).alloc (.cells #[.int .i64 0] 3)).drew :=
                      ⟨hr26.below hbA, hu26.below hbA, (HO5.out.set 0 _).below hbA, (kb.own (O6.out.below HH.out.low) (by simp)).below hbA, (kb.own HO14.out (by simp only [List.mem_singleton]; omega)).below hbA, o18, hlow26⟩
                    have z0w : w.cell? ⟨Cb, Co, none⟩ = some (.int .i64 z0) := (B11.out.cell (p := ⟨Cb, Co, none⟩) HCW.out).symm.trans HCZ.out
                    have z26 := (hlow26.cell (p := ⟨Cb, Co, none⟩) HCW.out).trans z0w
                    have hv26 : Own ((wr.setCell ⟨w.heap.size, 0, none⟩ (.int .i64 (stp : Int))).alloc (.cells #[.int .i64 0] 3)).drew (w11.heap.size + 1) 48 [.int .i64 v.1, .int .i64 v.2.1, .string v.2.2] := (kb.own HH.out.o15 (by simp only [List.mem_singleton]; omega)).below hbA
                    have hs26 : ((wr.setCell ⟨w.heap.size, 0, none⟩ (.int .i64 (stp : Int))).alloc (.cells #[.int .i64 0] 3)).drew.heap.size = wr.heap.size + 1 := by
                      show (World.alloc _ _).heap.size = _
                      simp
                    obtain ⟨wq, hwq⟩ : ∃ wq, wq = ((wr.setCell ⟨w.heap.size, 0, none⟩ (.int .i64 (stp : Int))).alloc (.cells #[.int .i64 0] 3)).drew := ⟨_, rfl⟩
                    rw [← hwq] at hI26 z26 hv26 hs26
                    have HI26 := Lib.hid hI26
                    have HS26 := Lib.hid hs26
                    have HW26 := Lib.hid hwq
                    have p0 := hv26.cell 0
                    have p1 := hv26.cell 1
                    have p2 := hv26.cell 2
                    have pq := hv26.lt
                    have hq1 := World.block_lt_of_cell? wq _ z26
                    have HR26 : Hid (∀ t ∈ tx, RowO [w.heap.size + 1, wr.heap.size] wq t.1 t.2.2) := fun t ht => by
                      have h1 := ((hI26.r.rows t ht).off_box hI26.o6)
                      have h2 := (h1.off_box hI26.o18)
                      exact h2.fewer (fun k hk => .inl (by simp only [List.mem_cons, List.not_mem_nil, or_false] at hk; rcases hk with rfl | rfl <;> simp))
                    have HWh := Lib.hid (fun W => Where_any bx z0 v W)
                    clear hwq hI26 z0w hs26 hv26 kb hbA o18 hlow26 hr26 hu26 hcz1
                    refine wp_region_still_tail 5 (by kernel_rfl) (by kernel_rfl) ?_
                    simp only [List.take_succ_cons, List.take_zero, List.drop_succ_cons, List.drop_zero]
                    change wpStill _ _ (World.drew _) _ _ _
                    rw [← HW26.out]
                    repeat still_step
                    refine wpStill_nil ?_
                    change wpList _ _ _ _ _ (World.drew _)
                    rw [← HW26.out]
                    clear p0 p1 p2 pq z26 hq1
                    go_wp2_with fail
                    refine (HWh.out _).mono ?_
                    rintro e w30 ⟨rfl, hw30⟩
                    obtain ⟨hb30, o30z, o30v, o30b, o30f⟩ := where_mem wq w30 bx z0 v _ hw30
                    have HI30 := Lib.hid (HI26.out.below hb30)
                    have HR30 : Hid (∀ t ∈ tx, RowO [w.heap.size + 1, wr.heap.size] w30 t.1 t.2.2) := fun t ht => (HR26.out t ht).below hb30
                    have OZ := Lib.hid o30z
                    have OV := Lib.hid o30v
                    have OB := Lib.hid o30b
                    have OF := Lib.hid o30f
                    have HS30 := Lib.hid hb30.size
                    have HGt : Hid (Good (tl0.length : Int) (lists tx)) := HGX
                    have hlow30 : w.heap.size ≤ w30.heap.size := HI30.out.low.size
                    have HFx : Hid ((lists tx).filter (colT z0 v) = lists hs) := by show _ = _; rw [HXL.out, HFl.out]
                    clear hw30 hb30 o30z o30v o30b o30f HWh HW26 HI26 HR26 HU HTl HUs HX HX11 HM11 HO5 HO14 HLs HRo
                    have hq18 : w.heap.size + 2 ≤ wr.heap.size := by omega
                    have hq14 : w11.heap.size ≠ wr.heap.size := by have := HH.out.o15.lt; omega
                    go_wp2_with fail
                    refine (wpIn_wide (n := 9)).1 ?_
                    refine' range_law (Kp := Kf [w.heap.size + 1] wr.heap.size 0) (Px := Yd [w.heap.size + 1] wr.heap.size 0 0 (lists hs)) (S := fun ys => lists ys = lists hs) (Sp := fun pre => lists pre <+: lists hs) (encs := fun x : TV => #[tval x]) rfl (by omega) (gf := 75) (lb := #[.pointer (some ⟨wq.heap.size + 2, 0, none⟩), .pointer (some ⟨wq.heap.size + 3, 0, none⟩)]) rfl n75 (enters_of Try.func75 (by kernel_rfl) rfl)
                      ?seq (fun h h' => h.trans h') (fun U V hU hc => Kf.of_calm hc (by have := HS26.out; have := HS30.out; omega) (by have := HS26.out; have := HS30.out; omega)) (fun _ => rfl)
                      (fun pre W => pre.length < stp ∧ ClI w bx w11.heap.size wr.heap.size (tl0.length : Int) (stp : Int) A0 c0 tx hs Sx pre.length W) (fun c pre W => c = Code.exit 2 ∧ pre.length = stp ∧ ClI w bx w11.heap.size wr.heap.size (tl0.length : Int) (stp : Int) A0 c0 tx hs Sx pre.length W) (fun pre U V h hc => ⟨h.1, h.2.calm hc hlow30⟩) (fun c pre U V h hc => ⟨h.1, h.2.1, h.2.2.calm hc hlow30⟩)
                      (fun pre x U V h hc => ?px) ⟨by simp; omega, HI30.out⟩ _ ?assign ?body ?done ?stop
                    case assign =>
                      intro l x W K hK
                      gi_wp2
                      exact hK
                    case px =>
                      obtain ⟨h1, h2, h3, h4, h5⟩ := h
                      refine ⟨h1, ?_, h3, Nat.lt_of_lt_of_le h4 hc.size, h5⟩
                      rw [foot_same (calm_cell hc h4 (by have := HS26.out; have := HS30.out; omega))]
                      exact h2.calm hc
                    case seq =>
                      intro l J Jx W hW hJ hJx hY h0
                      have hIW := HI30.out.below hW
                      obtain ⟨A1, c1, ho1, hA1, hl1, _⟩ := hIW.r.open_
                      have hfW : footL [w.heap.size + 1] wr.heap.size 0 W = [w.heap.size + 1] ++ [wr.heap.size] := foot_int _ (hIW.o18.cell 0)
                      have h7 : wr.heap.size < W.heap.size := hIW.o18.lt
                      have hs26 := HS26.out
                      have hnf : ∀ j, wq.heap.size + j ∉ footL [w.heap.size + 1] wr.heap.size 0 W := fun j hm => by
                        rw [hfW] at hm
                        simp only [List.cons_append, List.nil_append, List.mem_cons, List.not_mem_nil, or_false] at hm
                        omega
                      have hth := those_in 8 (by omega) l [w.heap.size + 1] wr.heap.size 0 0 (wq.heap.size + 2) (wq.heap.size + 3) 59 (rp bx) #[] #[.pointer (some ⟨wq.heap.size, 0, none⟩), .pointer (some ⟨wq.heap.size + 1, 0, none⟩)] A1 c1 tx (colT z0 v) J Jx W (Nat.zero_le _) h7 ((OB.out.below hW).cell 0) ((OF.out.below hW).cell 0) (hnf 3)
                        (fun W' hb' => list_at bx _ _ W' ((Calm.of_below 0 hb').own ho1) A1 tx.length c1 rfl) hA1 hl1 (fun t ht => ⟨by rw [hfW]; exact (HR30.out t ht).below hW, by
                          obtain ⟨_, _, _, _, _, _, hh⟩ := hIW.r
                          exact (hh t ht).2, by
                          have := right_six (HGt.out.1 _ (List.mem_map_of_mem ht)).1
                          omega⟩) HGt.out.len (fun k hk => by
                          rw [hfW] at hk
                          simp only [List.cons_append, List.nil_append, List.mem_cons, List.not_mem_nil, or_false] at hk
                          omega) (enters_of Try.func59 (by kernel_rfl) rfl) (fun t W' ht hk hr => by
                          have k1 := hk.own (OZ.out.below hW) (hnf 0)
                          have k2 := hk.own (OV.out.below hW) (hnf 1)
                          refine Where1_any wq.heap.size (wq.heap.size + 1) z0 v t W' (k1.cell 0) ⟨k2.cell 0, k2.cell 1, k2.cell 2⟩ ?_ hr
                          have := right_six (HGt.out.1 _ (List.mem_map_of_mem ht)).1
                          unfold maxLen
                          omega) hJ hJx (by rw [HFx.out]; exact hY) h0
                      rw [HFx.out] at hth
                      exact hth
                    case body =>
                      rintro l pre ⟨T, tq, tl⟩ W ⟨hlts, hI⟩ ⟨hpre, hx, hxn, _, _⟩
                      have hdrop := drop_next hpre
                      simp only at hdrop hx
                      have hkh : pre.length < hs.length := by
                        have := hpre.length_le
                        simp only [List.length_map, List.length_append, List.length_singleton] at this
                        omega
                      obtain ⟨g, o, hAe, hgw, _, hc, hr⟩ := hI.u.at_ hkh
                      subst hAe
                      have he1 : hs[pre.length].2.2 = tl := by
                        have h2 : (lists hs)[pre.length]? = some tl := by
                          have := congrArg (fun q => q[0]?) hdrop
                          simpa [List.getElem?_drop] using this
                        simp [hkh] at h2
                        exact h2
                      generalize hs[pre.length] = t at hc hr he1
                      obtain ⟨Uu, uc, ul⟩ := t
                      simp only at he1 hr
                      subst he1
                      replace hc : W.cell? ⟨g, o + pre.length, none⟩ = some (.slice Uu ul.length uc) := hc
                      have htl : ul ∈ L := by
                        have h1 : ul ∈ (lists hs).drop pre.length := by rw [hdrop]; exact List.mem_cons_self ..
                        have h2 := List.mem_of_mem_drop h1
                        rw [HFl.out] at h2
                        exact (List.mem_filter.1 h2).1
                      have HSm := Lib.hid (Same_any T Uu tq uc ul (right_fit (HGx.out.1 ul htl).1) W hx.row hr.row)
                      have h50 := hI.o18.cell 0
                      have q50 := hI.o18.lt
                      have h31 := hI.o14.cell 0
                      have q30 := hI.o14.lt
                      have HI0 := Lib.hid hI
                      have hk0 : (pre.length : Int) < (hs.length : Int) := by omega
                      have hk00 : (0 : Int) ≤ (pre.length : Int) := by omega
                      clear hI hx hr hdrop hpre htl
                      gi_wp2_with fail
                      refine (CallsIn.inRound l (callsIn_wide.2 HSm.out)).mono ?_
                      rintro e u1 ⟨rfl, b1⟩
                      have HI1 := Lib.hid (HI0.out.below b1)
                      have B1 := Lib.hid b1
                      clear b1 h50 q50 h31 q30 hc HSm
                      have h50 := HI1.out.o18.cell 0
                      have f50 := HI1.out.o18.frozen 0
                      have q50 := HI1.out.o18.lt
                      have h5 := HI1.out.o5.cell 0
                      have q5 := HI1.out.o5.lt
                      have h18 : wr.heap.size ≠ w.heap.size := by omega
                      have HQ : Hid (KeepsFrom w30.heap.size W (u1.setCell ⟨wr.heap.size, 0, none⟩ (.int .i64 ((pre.length : Int) + 1))) ∧ Kf [w.heap.size + 1] wr.heap.size 0 W (u1.setCell ⟨wr.heap.size, 0, none⟩ (.int .i64 ((pre.length : Int) + 1))) ∧
                          ClI w bx w11.heap.size wr.heap.size (tl0.length : Int) (stp : Int) (some ⟨g, o, none⟩) c0 tx hs Sx (pre ++ [((T, tq, ul) : TV)]).length (u1.setCell ⟨wr.heap.size, 0, none⟩ (.int .i64 ((pre.length : Int) + 1)))) := by
                        have e2 : (((pre ++ [((T, tq, ul) : TV)]).length : Nat) : Int) = (pre.length : Int) + 1 := by simp
                        have hb5 := HI1.out.bump hq18 hq14 (pre ++ [((T, tq, ul) : TV)]).length
                        rw [e2] at hb5
                        have kall : Kept [wr.heap.size] W (u1.setCell ⟨wr.heap.size, 0, none⟩ (.int .i64 ((pre.length : Int) + 1))) := (Kept.of _ B1.out).trans ((Kept.refl _ u1).setCell (.inl (by simp)) _) (Sub.refl _ _)
                        have hf0 : footL [w.heap.size + 1] wr.heap.size 0 W = [w.heap.size + 1] ++ [wr.heap.size] := foot_int _ (HI0.out.o18.cell 0)
                        have hf5 := foot_int [w.heap.size + 1] (hb5.o18.cell 0)
                        refine ⟨kall.keeps (fun k hk q hq => ?_) _, Kf.of_kept kall (fun k hk => by rw [hf0]; simp only [List.mem_singleton] at hk; simp [hk]) (by rw [hf5, hf0]; exact Sub.refl _ _) (fun k hk => by
                            rw [hf5] at hk
                            simp only [List.cons_append, List.nil_append, List.mem_cons, List.not_mem_nil, or_false] at hk
                            rcases hk with rfl | rfl
                            · exact hb5.o6.lt
                            · exact hb5.o18.lt), hb5⟩
                        simp only [List.mem_singleton] at hk
                        subst hk
                        have h8 := HI0.out.o18
                        unfold Own at h8
                        rw [h8] at hq
                        cases hq
                        rfl
                      by_cases hq : pre.length + 1 = stp
                      · have hqi : ((pre.length : Int) + 1 == (stp : Int)) = true := by rw [← hq]; simp
                        gi_wp2_with fail
                        exact ⟨HQ.out.1, rfl, by simpa using hq, HQ.out.2.2⟩
                      · have hqi : ((pre.length : Int) + 1 == (stp : Int)) = false := by simp only [beq_eq_false_iff_ne]; omega
                        gi_wp2_with fail
                        exact ⟨HQ.out.1, HQ.out.2.1, by simp only [List.length_append, List.length_singleton]; omega, HQ.out.2.2⟩
                    case done =>
                      rintro D ys W hD hys ⟨hlts, hI⟩ hK
                      have e1 : ys.length = hs.length := by have := congrArg List.length hys; simpa using this
                      rw [e1] at hI hlts
                      have h50 := hI.o18.cell 0
                      have q50 := hI.o18.lt
                      have h31 := hI.o14.cell 0
                      have q30 := hI.o14.lt
                      have h5 := hI.o5.cell 0
                      have q5 := hI.o5.lt
                      have h40 := hI.o6.cell 0
                      have f40 := hI.o6.frozen 0
                      have q40 := hI.o6.lt
                      have HII := Lib.hid hI
                      have HKD := Lib.hid hK
                      have HD := Lib.hid hD
                      have hmn : min (stp : Int) (hs.length : Int) = (hs.length : Int) := by omega
                      clear hI hK hys e1 hD
                      go_wp2
                      have hK2 : (W.setCell ⟨w.heap.size + 1, 0, none⟩ (.bool true)).heap[D]? = some (.deferred (some [])) := (KeepsOthers.setCell _ _ _).same D _ HKD.out rfl
                      have hO4 := HII.out.o6.set 0 (.bool true)
                      have hcm : Calm w30.heap.size (W.setCell ⟨w.heap.size + 1, 0, none⟩ (.bool true)) ((W.setCell ⟨w.heap.size + 1, 0, none⟩ (.bool true)).putObj D (.deferred none)) := Calm.put _ hK2 rfl HD.out
                      refine ⟨by simp, .inl ⟨_, _, rfl, run_takeDeferred hK2, ?_⟩⟩
                      exact ⟨.bool true, (by simp [results, Try.results5, go_sem, (hcm.own hO4).cell 0]), rfl, Below.calm (HII.out.low.setCell (p := ⟨w.heap.size + 1, 0, none⟩) (by simp) _) hcm (Nat.le_refl _) hlow30⟩
                    case stop =>
                      rintro D c pre W hD hpre ⟨rfl, hps, hI⟩ hK
                      have e1 : pre.length ≤ hs.length := by have := hpre.length_le; simpa using this
                      subst hps
                      have h50 := hI.o18.cell 0
                      have q50 := hI.o18.lt
                      have h31 := hI.o14.cell 0
                      have q30 := hI.o14.lt
                      have h5 := hI.o5.cell 0
                      have q5 := hI.o5.lt
                      have h40 := hI.o6.cell 0
                      have f40 := hI.o6.frozen 0
                      have q40 := hI.o6.lt
                      have HII := Lib.hid hI
                      have HKD := Lib.hid hK
                      have HD := Lib.hid hD
                      have hmn : min (pre.length : Int) (hs.length : Int) = (pre.length : Int) := by omega
                      clear hI hK hpre hD
                      gi_wp2
                      go_wp2
                      have hK2 : (W.setCell ⟨w.heap.size + 1, 0, none⟩ (.bool true)).heap[D]? = some (.deferred (some [])) := (KeepsOthers.setCell _ _ _).same D _ HKD.out rfl
                      have hO4 := HII.out.o6.set 0 (.bool true)
                      have hcm : Calm w30.heap.size (W.setCell ⟨w.heap.size + 1, 0, none⟩ (.bool true)) ((W.setCell ⟨w.heap.size + 1, 0, none⟩ (.bool true)).putObj D (.deferred none)) := Calm.put _ hK2 rfl HD.out
                      refine ⟨by simp, .inl ⟨_, _, rfl, run_takeDeferred hK2, ?_⟩⟩
                      exact ⟨.bool true, (by simp [results, Try.results5, go_sem, (hcm.own hO4).cell 0]), rfl, Below.calm (HII.out.low.setCell (p := ⟨w.heap.size + 1, 0, none⟩) (by simp) _) hcm (Nat.le_refl _) hlow30⟩
            · have hz : (p == 0) = false := by simpa using hp0
              obtain ⟨w11, hw11⟩ : ∃ w11, w11 = w9 := ⟨_, rfl⟩
              have hb11 : Below w9.heap.size w9 w11 := by rw [hw11]; exact Below.refl _ _
              have HB11 := Lib.hid hb11
              rw [← hw11]
              clear hw11 hb11 HNp hp0 h60' f60 q60 hcz ha0 ha1 qa HPE hPE HGP
              have C11 := Lib.hid (C69.out.trans (HB11.out.mono C69.out.size))
              have B11 := Lib.hid (B9.out.trans (HB11.out.mono B9.out.size))
              have O5 := Lib.hid (O5.out.below HB11.out)
              have O6 := Lib.hid (O6.out.below HB11.out)
              have O10 := Lib.hid (O10.out.below HB11.out)
              have HX11 := Lib.hid (HXR.out.below C11.out)
              have HM11 := Lib.hid (HM1.out.below C11.out)
              have HC11 := Lib.hid (HC.out.below B11.out)
              have hx0 : w11.cell? ⟨g0, o0, none⟩ = some (.slice T0 tl0.length tc0) := by
                have h1 := (HX.out.lst.below B11.out).1 h0n
                obtain ⟨b, o, h2, h3, _, h4⟩ := h1
                injection h2 with h2
                injection h2 with h5 h6
                subst h5 h6
                have := h4 0 _ (List.getElem?_eq_getElem h0n)
                rw [ht0] at this
                exact this
              have ha1 := O10.out.cell 1
              have qa := O10.out.lt
              have hcp : 0 < cs.length := pos_of hcz'
              obtain ⟨z0, hz0⟩ : ∃ z, cs[0]'hcp = z := ⟨_, rfl⟩
              obtain ⟨Cb, Co, rfl, hCw, hCc⟩ := HC.out hcp
              have hCb : Cb < w11.heap.size := Nat.lt_of_lt_of_le hCw B11.out.size
              have hcz0 : w11.cell? ⟨Cb, Co, none⟩ = some (.int .i64 z0) := (B11.out.cell (p := ⟨Cb, Co, none⟩) hCw).trans (hCc 0 z0 (by rw [List.getElem?_eq_getElem hcp, hz0]))
              have HCW := Lib.hid hCw
              have hwq0 : Below w11.heap.size w11 ((w11.alloc (.cells #[.slice none 0 0] 31)).alloc (.cells #[.int .i64 0, .int .i64 0, .string noText] 48)) := ((Below.refl _ _).alloc (Nat.le_refl _) _).alloc (by simp) _
              have hQ15 : Own ((w11.alloc (.cells #[.slice none 0 0] 31)).alloc (.cells #[.int .i64 0, .int .i64 0, .string noText] 48)) (w11.heap.size + 1) 48 [.int .i64 0, .int .i64 0, .string noText] := by
                have h1 := heap_alloc_new (w11.alloc (.cells #[.slice none 0 0] 31)) (.cells #[.int .i64 0, .int .i64 0, .string noText] 48)
                rw [World.size_alloc] at h1
                exact h1
              have hQ14 : Own ((w11.alloc (.cells #[.slice none 0 0] 31)).alloc (.cells #[.int .i64 0, .int .i64 0, .string noText] 48)) w11.heap.size 31 [.slice none 0 0] := by
                have h1 : Own (w11.alloc (.cells #[.slice none 0 0] 31)) w11.heap.size 31 [.slice none 0 0] := heap_alloc_new w11 _
                exact h1.alloc _
              have HCZ := Lib.hid hcz0
              have HA1 := Lib.hid ha1
              have hna6 : tl0.length ≤ 6 := by omega
              have qCb := hCb
              clear hCc hz0
              by_cases hta : 0 < tl0.length
              · obtain ⟨gT, oT, rfl, hgT, hTc⟩ : ∃ b o, T0 = some ⟨b, o, none⟩ ∧ b < w11.heap.size ∧ ∀ (i : Nat) x, tl0[i]? = some x → w11.cell? ⟨b, o + i * 3, none⟩ = some (.int .i64 x.1) ∧ w11.cell? ⟨b, o + i * 3 + 1, none⟩ = some (.int .i64 x.2.1) ∧ w11.cell? ⟨b, o + i * 3 + 2, none⟩ = some (.string x.2.2) := by
                  have h1 := ((HX.out.lst.below B11.out).2 _ (List.getElem_mem h0n)).row
                  rw [ht0] at h1
                  exact h1 hta
                obtain ⟨wq, hwq⟩ : ∃ wq, wq = ((w11.alloc (.cells #[.slice none 0 0] 31)).alloc (.cells #[.int .i64 0, .int .i64 0, .string noText] 48)).drew := ⟨_, rfl⟩
                have hwq1 : Below w11.heap.size w11 wq := by rw [hwq]; exact hwq0.drew
                have a0 := (hwq1.cell (p := ⟨g0, o0, none⟩) (by simpa using World.block_lt_of_cell? _ _ hx0)).trans hx0
                have a1 := (hwq1.cell (p := ⟨Cb, Co, none⟩) hCb).trans hcz0
                have hu : IntKind.u64.wrap (tl0.length : Int) = (tl0.length : Int) := by rw [IntKind.wrap_u64]; omega
                obtain ⟨U, hU, hU0⟩ : ∃ U, IntKind.u64.wrap z0 = U ∧ 0 ≤ U := ⟨_, rfl, by rw [IntKind.wrap_u64]; omega⟩
                obtain ⟨k, hm2, hk⟩ : ∃ k : Nat, U % (tl0.length : Int) = (k : Int) ∧ k < tl0.length := ⟨(U % (tl0.length : Int)).toNat, by rw [Int.toNat_of_nonneg (Int.emod_nonneg _ (by omega))], by have := Int.emod_lt_of_pos U (b := (tl0.length : Int)) (by omega); have := Int.emod_nonneg U (b := (tl0.length : Int)) (by omega); omega⟩
                have hm1 : U.tmod (tl0.length : Int) = (k : Int) := by rw [Int.tmod_eq_emod_of_nonneg hU0]; exact hm2
                have hnz : tl0 ≠ [] := List.length_pos_iff.1 hta
                obtain ⟨d0, d1, d2⟩ := hTc k _ (List.getElem?_eq_getElem hk)
                have e0 := (hwq1.cell (p := ⟨gT, oT + k * 3, none⟩) hgT).trans d0
                have e1 := (hwq1.cell (p := ⟨gT, oT + k * 3 + 1, none⟩) hgT).trans d1
                have e2 := (hwq1.cell (p := ⟨gT, oT + k * 3 + 2, none⟩) hgT).trans d2
                obtain ⟨v, hv⟩ : ∃ v, tl0[k] = v := ⟨_, rfl⟩
                rw [hv] at e0 e1 e2
                have hki : IntKind.i64.wrap (k : Int) = (k : Int) := IntWalk.i64_in _ (by omega)
                have Q15 : Hid (Own wq (w11.heap.size + 1) 48 [.int .i64 0, .int .i64 0, .string noText]) := by rw [hwq]; exact hQ15.below (Below.refl _ _).drew
                have Q14 : Hid (Own wq w11.heap.size 31 [.slice none 0 0]) := by rw [hwq]; exact hQ14.below (Below.refl _ _).drew
                have HBq := Lib.hid hwq1
                have HWq := Lib.hid hwq
                clear hwq1 hwq hwq0 hQ14 hQ15 d0 d1 d2 hTc hcz0 ha1
                gi_wp2_with fail
                refine wpIn_wide.2 ?_
                refine wp_region_still_tail 13 (by kernel_rfl) (by kernel_rfl) ?_
                simp only [List.take_succ_cons, List.take_zero, List.drop_succ_cons, List.drop_zero]
                change wpStill _ _ (World.drew _) _ _ _
                rw [← HWq.out]
                repeat still_step
                refine wpStill_nil ?_
                change wpList _ _ _ _ _ (World.drew _)
                rw [← HWq.out]
                clear a0 a1 e0 e1 e2 hki hm1 hm2 hu hU hU0 hnz hx0
                have t0 := Q15.out.cell 0
                have t1 := Q15.out.cell 1
                have t2 := Q15.out.cell 2
                have f0 := Q15.out.frozen 0
                have f1 := Q15.out.frozen 1
                have f2 := Q15.out.frozen 2
                have qq := Q15.out.lt
                go_upto_region 18 with (fail)
                have hSI : HereI w11 v [] (((wq.setCell ⟨w11.heap.size + 1, 0, none⟩ (.int .i64 v.1)).setCell ⟨w11.heap.size + 1, 1, none⟩ (.int .i64 v.2.1)).setCell ⟨w11.heap.size + 1, 2, none⟩ (.string v.2.2)) := by
                  have kk : Kept [w11.heap.size + 1] wq (((wq.setCell ⟨w11.heap.size + 1, 0, none⟩ (.int .i64 v.1)).setCell ⟨w11.heap.size + 1, 1, none⟩ (.int .i64 v.2.1)).setCell ⟨w11.heap.size + 1, 2, none⟩ (.string v.2.2)) := (((Kept.refl _ wq).setCell (.inl (by simp)) _).setCell (.inl (by simp)) _).setCell (.inl (by simp)) _
                  exact ⟨HBq.out.trans (kk.below HBq.out.size (fun k hk => by simp only [List.mem_singleton] at hk; omega)), ((Q15.out.set 0 (.int .i64 v.1)).set 1 (.int .i64 v.2.1)).set 2 (.string v.2.2), _, [], kk.own Q14.out (by simp), .inl ⟨rfl, rfl, rfl⟩, fun _ h => by cases h⟩
                obtain ⟨wS, hwS⟩ : ∃ wS, wS = ((wq.setCell ⟨w11.heap.size + 1, 0, none⟩ (.int .i64 v.1)).setCell ⟨w11.heap.size + 1, 1, none⟩ (.int .i64 v.2.1)).setCell ⟨w11.heap.size + 1, 2, none⟩ (.string v.2.2) := ⟨_, rfl⟩
                rw [← hwS] at hSI ⊢
                have HSI := Lib.hid hSI
                clear hSI hwS t0 t1 t2 f0 f1 f2 qq Q14 Q15 HBq HWq
                obtain ⟨us, ⟨Au, cu, hmv, _, _, hlu, _, _⟩, hus⟩ := HM11.out
                simp only [rv3, Value.agg.injEq, Array.mk.injEq, List.cons.injEq, Value.slice.injEq, and_true, true_and] at hmv
                obtain ⟨e1, e2, e3⟩ := hmv
                subst e1 e2 e3
                have HU := Lib.hid hlu
                have HUs := Lib.hid hus
                have hul : us.length ≤ 60 := by have := HLx.out; rw [← HUs.out] at this; simpa using this
                have s10 := (HSI.out.low.cell (p := ⟨w5.heap.size, 1, none⟩) qa).trans HA1.out
                have HTl : Hid (∀ t ∈ us, t.2.2.length = tl0.length) := fun t ht => by
                  have := (HGx.out.1 t.2.2 (by rw [← HUs.out]; exact List.mem_map_of_mem ht)).2
                  omega
                obtain ⟨i0, hi0, hzz0, hzs, hzb⟩ := info_parts infoTup
                clear hlu hus
                try refine wpIn_wide.2 ?_
                try go_wp2_with fail
                clear s10
                go_loopw [123] (fun i wr => ∃ k : Nat, k ≤ us.length ∧ i = .int .i64 k ∧ Hid (HereI w11 v ((us.take k).filter fun t => colT z0 v t.2.2) wr)) (fun i _ => us.length - (intOf i).toNat)
                case atStart => exact ⟨0, Nat.zero_le _, rfl, HSI⟩
                case round =>
                  obtain ⟨k, hk, rfl, HH⟩ := hrel
                  by_cases hlt : k < us.length
                  · obtain ⟨gu, ou, hA2, hgu, _, hcu1, hru⟩ := (HU.out.below HH.out.low).at_ hlt
                    subst hA2
                    have hlx := HTl.out us[k] (List.getElem_mem hlt)
                    have HFS := Lib.hid (fil_snoc (p := fun t => colT z0 v t.2.2) hlt)
                    obtain ⟨t, ht⟩ : ∃ t, us[k] = t := ⟨_, rfl⟩
                    rw [ht] at hcu1 hru hlx HFS
                    obtain ⟨X, xc, xl⟩ := t
                    simp only at hru hlx HFS
                    replace hcu1 : wr.cell? ⟨gu, ou + k, none⟩ = some (.slice X xl.length xc) := hcu1
                    have hz := (HH.out.low.cell (p := ⟨Cb, Co, none⟩) hCb).trans HCZ.out
                    have p0 := HH.out.o15.cell 0
                    have p1 := HH.out.o15.cell 1
                    have p2 := HH.out.o15.cell 2
                    have pq := HH.out.o15.lt
                    have hq1 := World.block_lt_of_cell? wr _ hz
                    rw [hlx] at hcu1
                    have HNo : Hid (∀ q, colT z0 v xl = false → HereI w11 v ((us.take (k + 1)).filter fun t => colT z0 v t.2.2) (wr.drewN q)) := fun q h => by
                      rw [HFS.out, h]
                      simpa using HH.out.below (below_drewN (Below.refl _ _) q)
                    clear ht
                    by_cases h0 : 0 ≤ z0
                    · obtain ⟨m, rfl⟩ : ∃ m : Nat, z0 = (m : Int) := ⟨z0.toNat, by omega⟩
                      by_cases h1 : (m : Int) < (tl0.length : Int)
                      · obtain ⟨gx, ox, rfl, hgx, hcs⟩ := hru.row (by omega)
                        obtain ⟨d0, d1, d2⟩ := hcs m _ (List.getElem?_eq_getElem (by omega))
                        have hcol : colT (m : Int) v xl = decide (xl[m]'(by omega) = v) := by
                          have : m < xl.length := by omega
                          simp [colT, this]
                        have HCo := Lib.hid hcol
                        generalize xl[m]'(by omega) = y at d0 d1 d2 HCo
                        clear hcol hru hcs
                        by_cases heq : y = v
                        · subst heq
                          have HY : Hid (colT (m : Int) y xl = true) := by show _ = _; rw [HCo.out]; simp
                          clear HCo HNo
                          have hd0 : decide ((0 : Int) ≤ (m : Int)) = true := by simp
                          have hd1 : decide ((m : Int) < (tl0.length : Int)) = true := decide_eq_true h1
                          obtain ⟨yk, yn, ys⟩ := y
                          simp only at d0 d1 d2 p0 p1 p2
                          go_wp2_with fail
                          go_quiet (fail)
                          have hd := HH.out.below (below_drewN (Below.refl _ _) nq)
                          have hcuD : (wr.drewN nq).cell? ⟨gu, ou + k, none⟩ = some (.slice (some ⟨gx, ox, none⟩) tl0.length xc) := hcu1
                          obtain ⟨wd, hwd⟩ : ∃ wd, wd = wr.drewN nq := ⟨_, rfl⟩
                          rw [← hwd] at hd hcuD ⊢
                          have HD := Lib.hid hd
                          obtain ⟨v14, G, hO, ha, hG⟩ := hd.o14
                          obtain ⟨A0, c0, rfl⟩ := ha.val
                          have hc14 := hO.cell 0
                          have q14 := hO.lt
                          have hfl : ((us.take k).filter fun t => colT (m : Int) (yk, yn, ys) t.2.2).length ≤ 60 := Nat.le_trans (List.length_filter_le _ _) (by rw [List.length_take]; omega)
                          have HOw := Lib.hid ((ha.kept ((Kept.refl [] wd).alloc (.cells #[.slice (some ⟨gx, ox, none⟩) tl0.length xc] 35)) (fun _ _ h => by cases h)).owns)
                          have HA := Lib.hid ha
                          have HO := Lib.hid hO
                          have HG := Lib.hid hG
                          have HNw : Hid (∀ j u, [Value.slice (some ⟨gx, ox, none⟩) tl0.length xc][j]? = some u → (wd.alloc (.cells #[.slice (some ⟨gx, ox, none⟩) tl0.length xc] 35)).cell? ((⟨wd.heap.size, 0, none⟩ : Addr).add j) = some u) := fun j u hj => by
                            have hv : Own (wd.alloc (.cells #[.slice (some ⟨gx, ox, none⟩) tl0.length xc] 35)) wd.heap.size 35 [.slice (some ⟨gx, ox, none⟩) tl0.length xc] := heap_alloc_new wd _
                            rw [Addr.add_lit, Nat.zero_add, hv.cell]
                            exact hj
                          have HXV : Hid (tval ((some ⟨gx, ox, none⟩, xc, xl) : TV) = .slice (some ⟨gx, ox, none⟩) tl0.length xc) := by show Value.slice _ _ _ = _; rw [hlx]
                          clear hd hwd hO ha hG hcu1 hcuD hz p0 p1 p2 d0 d1 d2 hd0 hd1
                          have hb1 : ((us.take k).filter fun t => colT (m : Int) (yk, yn, ys) t.2.2).length + 1 ≤ maxLen := by unfold maxLen; omega
                          have hb2 : (((us.take k).filter fun t => colT (m : Int) (yk, yn, ys) t.2.2).length + 1) * 24 ≤ 140737488355328 := by omega
                          generalize hhs : ((us.take k).filter fun t => colT (m : Int) (yk, yn, ys) t.2.2) = hs at *
                          have hone : ∀ u ∈ [Value.slice (some ⟨gx, ox, none⟩) tl0.length xc], u.oneCell' = true := by simp [Value.oneCell']
                          clear hhs
                          go_wp2_with (at_builtin; refine wpList_append_own_at _ rfl _ _ 31 rfl 0 35 i0 _ 1 24 Try.underlying31 hi0 hzz0 hzs hzb rfl (by decide) (.slice A0 hs.length c0) hs.length (hs.map tval) rfl HOw.out ⟨wd.heap.size, 0, none⟩ 1 1 [.slice (some ⟨gx, ox, none⟩) tl0.length xc] rfl rfl HNw.out hone hb1 hb2 (Nat.zero_le _) ?_; intro v' w1 ho hg _ hat; obtain ⟨g1, cap1, rfl⟩ := owns_val ho; rw [← HXV.out] at ho; obtain ⟨hst, k1⟩ := HD.out.step HO.out HA.out HG.out ho hg hat; have HQ := Lib.hid hst; have h1 := k1.cell 0; have f1 := k1.frozen 0; have q3 := k1.lt; clear ho hg hat k1 hst)
                          go_roundw
                          case rel => exact ⟨k + 1, by omega, by go_num, by rw [HFS.out, HY.out]; exact HQ⟩
                          case measure => simp [intOf]; omega
                        · have HN : Hid (colT (m : Int) v xl = false) := by show _ = _; rw [HCo.out]; exact decide_eq_false heq
                          have kn := fun w => eql3 heq w
                          have hd0 : decide ((0 : Int) ≤ (m : Int)) = true := by simp
                          have hd1 : decide ((m : Int) < (tl0.length : Int)) = true := decide_eq_true h1
                          obtain ⟨yk, yn, ys⟩ := y
                          obtain ⟨vk, vn, vs⟩ := v
                          simp only at d0 d1 d2 p0 p1 p2
                          clear heq HCo
                          go_wp2_with fail
                          go_quiet (fail)
                          have HQ := Lib.hid (HNo.out nq HN.out)
                          clear HNo hcu1 hz p0 p1 p2 d0 d1 d2 hd0 hd1 kn
                          go_wp2
                          go_roundw
                          case rel => exact ⟨k + 1, by omega, by go_num, HQ⟩
                          case measure => simp [intOf]; omega
                      · have HN : Hid (colT (m : Int) v xl = false) := by show _ = _; simp [colT, hlx, h1]
                        have hd0 : decide ((0 : Int) ≤ (m : Int)) = true := by simp
                        have hd1 : decide (m < tl0.length) = false := decide_eq_false (by omega)
                        clear h1 hru
                        go_wp2_with fail
                        go_quiet (fail)
                        have HQ := Lib.hid (HNo.out nq HN.out)
                        clear HNo hcu1 hz p0 p1 p2 hd0 hd1
                        go_wp2
                        go_roundw
                        case rel => exact ⟨k + 1, by omega, by go_num, HQ⟩
                        case measure => simp [intOf]; omega
                    · have HN : Hid (colT z0 v xl = false) := by show _ = _; simp [colT, h0]
                      have hd0 : decide (0 ≤ z0) = false := decide_eq_false h0
                      clear h0 hru
                      go_wp2_with fail
                      go_quiet (fail)
                      have HQ := Lib.hid (HNo.out nq HN.out)
                      clear HNo hcu1 hz p0 p1 p2 hd0
                      go_wp2
                      go_roundw
                      case rel => exact ⟨k + 1, by omega, by go_num, HQ⟩
                      case measure => simp [intOf]; omega
                  · have hkl : k = us.length := by omega
                    subst hkl
                    have hq0 : ((us.take us.length).filter fun t => colT z0 v t.2.2) = us.filter fun t => colT z0 v t.2.2 := by rw [List.take_length]
                    rw [hq0] at HH
                    have HFl : Hid (lists (us.filter fun t => colT z0 v t.2.2) = L.filter (colT z0 v)) := by show _ = _; rw [lists_filter (colT z0 v) us, HUs.out]
                    have hml : ∀ t ∈ us.filter fun t => colT z0 v t.2.2, t ∈ us := fun t ht => (List.mem_filter.1 ht).1
                    have HRo : Hid (∀ t ∈ us.filter fun t => colT z0 v t.2.2, RowO [] wr t.1 t.2.2) := fun t ht => (HU.out.below HH.out.low).2 t (hml t ht)
                    have hhl : (us.filter fun t => colT z0 v t.2.2).length ≤ us.length := List.length_filter_le _ _
                    clear hq0 hml
                    generalize (us.filter fun t => colT z0 v t.2.2) = hs at HH HFl HRo hhl
                    obtain ⟨v14, G, hO, ha, hG⟩ := HH.out.o14
                    obtain ⟨A0, c0, rfl⟩ := ha.val
                    have ⟨A1, c1, hval, hA1, hlst, _⟩ := ha.lst [] (fun _ _ h => by cases h) HRo.out
                    injection hval with hv1 _ hv2
                    subst hv1 hv2
                    have HLs := Lib.hid hlst
                    have HO14 := Lib.hid hO
                    have HO5 := Lib.hid (O5.out.below HH.out.low)
                    have hc5 := HO5.out.cell 0
                    have f5 := HO5.out.frozen 0
                    have q5 := HO5.out.lt
                    obtain ⟨stp, hst, hs1, hs10⟩ := stop_range st
                    have HST := Lib.hid hst
                    clear hlst hO ha hG hst
                    go_wp2_with fail
                    rw [HST.out]
                    clear hc5 f5 q5
                    have hlow := HH.out.low.size
                    have h6lt := O6.out.lt
                    have hcz1 := (HH.out.low.cell (p := ⟨Cb, Co, none⟩) hCb).trans HCZ.out
                    have hcb1 := World.block_lt_of_cell? wr _ hcz1
                    obtain ⟨hr26, hu26⟩ := rel_set (y := (stp : Int)) (HX11.out.below HH.out.low) HLs.out HO5.out
                    have kb : Kept [w.heap.size] wr (wr.setCell ⟨w.heap.size, 0, none⟩ (.int .i64 (stp : Int))) := (Kept.refl _ wr).setCell (.inl (by simp)) _
                    have hbA : Below (wr.setCell ⟨w.heap.size, 0, none⟩ (.int .i64 (stp : Int))).heap.size (wr.setCell ⟨w.heap.size, 0, none⟩ (.int .i64 (stp : Int))) ((wr.setCell ⟨w.heap.size, 0, none⟩ (.int .i64 (stp : Int))).alloc (.cells #[.int .i64 0] 3)).drew := ((Below.refl _ _).alloc (Nat.le_refl _) _).drew
                    have o18 : Own ((wr.setCell ⟨w.heap.size, 0, none⟩ (.int .i64 (stp : Int))).alloc (.cells #[.int .i64 0] 3)).drew wr.heap.size 3 [.int .i64 0] := by
                      have h1 : Own ((wr.setCell ⟨w.heap.size, 0, none⟩ (.int .i64 (stp : Int))).alloc (.cells #[.int .i64 0] 3)) (wr.setCell ⟨w.heap.size, 0, none⟩ (.int .i64 (stp : Int))).heap.size 3 [.int .i64 0] := heap_alloc_new _ _
                      rw [show (wr.setCell ⟨w.heap.size, 0, none⟩ (.int .i64 (stp : Int))).heap.size = wr.heap.size by simp] at h1
                      exact h1.below (Below.refl _ _).drew
                    have hlow26 : Below w.heap.size w ((wr.setCell ⟨w.heap.size, 0, none⟩ (.int .i64 (stp : Int))).alloc (.cells #[.int .i64 0] 3)).drew := ((((B11.out.trans (HH.out.low.mono B11.out.size)).setCell (p := ⟨w.heap.size, 0, none⟩) (Nat.le_refl _) _).alloc (by have := B11.out.size; simp; omega) _).drew)
                    have hI26 : ClI w bx w11.heap.size wr.heap.size (tl0.length : Int) (stp : Int) A0 c0 tx hs Sx 0 ((wr.setCell ⟨w.heap.size, 0, none⟩ (.int .i64 (stp : Int))).alloc (.cells #[.int .i64 0] 3)).drew :=
                      ⟨hr26.below hbA, hu26.below hbA, (HO5.out.set 0 _).below hbA, (kb.own (O6.out.below HH.out.low) (by simp)).below hbA, (kb.own HO14.out (by simp only [List.mem_singleton]; omega)).below hbA, o18, hlow26⟩
                    have z0w : w.cell? ⟨Cb, Co, none⟩ = some (.int .i64 z0) := (B11.out.cell (p := ⟨Cb, Co, none⟩) HCW.out).symm.trans HCZ.out
                    have z26 := (hlow26.cell (p := ⟨Cb, Co, none⟩) HCW.out).trans z0w
                    have hv26 : Own ((wr.setCell ⟨w.heap.size, 0, none⟩ (.int .i64 (stp : Int))).alloc (.cells #[.int .i64 0] 3)).drew (w11.heap.size + 1) 48 [.int .i64 v.1, .int .i64 v.2.1, .string v.2.2] := (kb.own HH.out.o15 (by simp only [List.mem_singleton]; omega)).below hbA
                    have hs26 : ((wr.setCell ⟨w.heap.size, 0, none⟩ (.int .i64 (stp : Int))).alloc (.cells #[.int .i64 0] 3)).drew.heap.size = wr.heap.size + 1 := by
                      show (World.alloc _ _).heap.size = _
                      simp
                    obtain ⟨wq, hwq⟩ : ∃ wq, wq = ((wr.setCell ⟨w.heap.size, 0, none⟩ (.int .i64 (stp : Int))).alloc (.cells #[.int .i64 0] 3)).drew := ⟨_, rfl⟩
                    rw [← hwq] at hI26 z26 hv26 hs26
                    have HI26 := Lib.hid hI26
                    have HS26 := Lib.hid hs26
                    have HW26 := Lib.hid hwq
                    have p0 := hv26.cell 0
                    have p1 := hv26.cell 1
                    have p2 := hv26.cell 2
                    have pq := hv26.lt
                    have hq1 := World.block_lt_of_cell? wq _ z26
                    have HR26 : Hid (∀ t ∈ tx, RowO [w.heap.size + 1, wr.heap.size] wq t.1 t.2.2) := fun t ht => by
                      have h1 := ((hI26.r.rows t ht).off_box hI26.o6)
                      have h2 := (h1.off_box hI26.o18)
                      exact h2.fewer (fun k hk => .inl (by simp only [List.mem_cons, List.not_mem_nil, or_false] at hk; rcases hk with rfl | rfl <;> simp))
                    have HWh := Lib.hid (fun W => Where_any bx z0 v W)
                    clear hwq hI26 z0w hs26 hv26 kb hbA o18 hlow26 hr26 hu26 hcz1
                    refine wp_region_still_tail 5 (by kernel_rfl) (by kernel_rfl) ?_
                    simp only [List.take_succ_cons, List.take_zero, List.drop_succ_cons, List.drop_zero]
                    change wpStill _ _ (World.drew _) _ _ _
                    rw [← HW26.out]
                    repeat still_step
                    refine wpStill_nil ?_
                    change wpList _ _ _ _ _ (World.drew _)
                    rw [← HW26.out]
                    clear p0 p1 p2 pq z26 hq1
                    go_wp2_with fail
                    refine (HWh.out _).mono ?_
                    rintro e w30 ⟨rfl, hw30⟩
                    obtain ⟨hb30, o30z, o30v, o30b, o30f⟩ := where_mem wq w30 bx z0 v _ hw30
                    have HI30 := Lib.hid (HI26.out.below hb30)
                    have HR30 : Hid (∀ t ∈ tx, RowO [w.heap.size + 1, wr.heap.size] w30 t.1 t.2.2) := fun t ht => (HR26.out t ht).below hb30
                    have OZ := Lib.hid o30z
                    have OV := Lib.hid o30v
                    have OB := Lib.hid o30b
                    have OF := Lib.hid o30f
                    have HS30 := Lib.hid hb30.size
                    have HGt : Hid (Good (tl0.length : Int) (lists tx)) := HGX
                    have hlow30 : w.heap.size ≤ w30.heap.size := HI30.out.low.size
                    have HFx : Hid ((lists tx).filter (colT z0 v) = lists hs) := by show _ = _; rw [HXL.out, HFl.out]
                    clear hw30 hb30 o30z o30v o30b o30f HWh HW26 HI26 HR26 HU HTl HUs HX HX11 HM11 HO5 HO14 HLs HRo
                    have hq18 : w.heap.size + 2 ≤ wr.heap.size := by omega
                    have hq14 : w11.heap.size ≠ wr.heap.size := by have := HH.out.o15.lt; omega
                    go_wp2_with fail
                    refine (wpIn_wide (n := 9)).1 ?_
                    refine' range_law (Kp := Kf [w.heap.size + 1] wr.heap.size 0) (Px := Yd [w.heap.size + 1] wr.heap.size 0 0 (lists hs)) (S := fun ys => lists ys = lists hs) (Sp := fun pre => lists pre <+: lists hs) (encs := fun x : TV => #[tval x]) rfl (by omega) (gf := 75) (lb := #[.pointer (some ⟨wq.heap.size + 2, 0, none⟩), .pointer (some ⟨wq.heap.size + 3, 0, none⟩)]) rfl n75 (enters_of Try.func75 (by kernel_rfl) rfl)
                      ?seq (fun h h' => h.trans h') (fun U V hU hc => Kf.of_calm hc (by have := HS26.out; have := HS30.out; omega) (by have := HS26.out; have := HS30.out; omega)) (fun _ => rfl)
                      (fun pre W => pre.length < stp ∧ ClI w bx w11.heap.size wr.heap.size (tl0.length : Int) (stp : Int) A0 c0 tx hs Sx pre.length W) (fun c pre W => c = Code.exit 2 ∧ pre.length = stp ∧ ClI w bx w11.heap.size wr.heap.size (tl0.length : Int) (stp : Int) A0 c0 tx hs Sx pre.length W) (fun pre U V h hc => ⟨h.1, h.2.calm hc hlow30⟩) (fun c pre U V h hc => ⟨h.1, h.2.1, h.2.2.calm hc hlow30⟩)
                      (fun pre x U V h hc => ?px) ⟨by simp; omega, HI30.out⟩ _ ?assign ?body ?done ?stop
                    case assign =>
                      intro l x W K hK
                      gi_wp2
                      exact hK
                    case px =>
                      obtain ⟨h1, h2, h3, h4, h5⟩ := h
                      refine ⟨h1, ?_, h3, Nat.lt_of_lt_of_le h4 hc.size, h5⟩
                      rw [foot_same (calm_cell hc h4 (by have := HS26.out; have := HS30.out; omega))]
                      exact h2.calm hc
                    case seq =>
                      intro l J Jx W hW hJ hJx hY h0
                      have hIW := HI30.out.below hW
                      obtain ⟨A1, c1, ho1, hA1, hl1, _⟩ := hIW.r.open_
                      have hfW : footL [w.heap.size + 1] wr.heap.size 0 W = [w.heap.size + 1] ++ [wr.heap.size] := foot_int _ (hIW.o18.cell 0)
                      have h7 : wr.heap.size < W.heap.size := hIW.o18.lt
                      have hs26 := HS26.out
                      have hnf : ∀ j, wq.heap.size + j ∉ footL [w.heap.size + 1] wr.heap.size 0 W := fun j hm => by
                        rw [hfW] at hm
                        simp only [List.cons_append, List.nil_append, List.mem_cons, List.not_mem_nil, or_false] at hm
                        omega
                      have hth := those_in 8 (by omega) l [w.heap.size + 1] wr.heap.size 0 0 (wq.heap.size + 2) (wq.heap.size + 3) 59 (rp bx) #[] #[.pointer (some ⟨wq.heap.size, 0, none⟩), .pointer (some ⟨wq.heap.size + 1, 0, none⟩)] A1 c1 tx (colT z0 v) J Jx W (Nat.zero_le _) h7 ((OB.out.below hW).cell 0) ((OF.out.below hW).cell 0) (hnf 3)
                        (fun W' hb' => list_at bx _ _ W' ((Calm.of_below 0 hb').own ho1) A1 tx.length c1 rfl) hA1 hl1 (fun t ht => ⟨by rw [hfW]; exact (HR30.out t ht).below hW, by
                          obtain ⟨_, _, _, _, _, _, hh⟩ := hIW.r
                          exact (hh t ht).2, by
                          have := right_six (HGt.out.1 _ (List.mem_map_of_mem ht)).1
                          omega⟩) HGt.out.len (fun k hk => by
                          rw [hfW] at hk
                          simp only [List.cons_append, List.nil_append, List.mem_cons, List.not_mem_nil, or_false] at hk
                          omega) (enters_of Try.func59 (by kernel_rfl) rfl) (fun t W' ht hk hr => by
                          have k1 := hk.own (OZ.out.below hW) (hnf 0)
                          have k2 := hk.own (OV.out.below hW) (hnf 1)
                          refine Where1_any wq.heap.size (wq.heap.size + 1) z0 v t W' (k1.cell 0) ⟨k2.cell 0, k2.cell 1, k2.cell 2⟩ ?_ hr
                          have := right_six (HGt.out.1 _ (List.mem_map_of_mem ht)).1
                          unfold maxLen
                          omega) hJ hJx (by rw [HFx.out]; exact hY) h0
                      rw [HFx.out] at hth
                      exact hth
                    case body =>
                      rintro l pre ⟨T, tq, tl⟩ W ⟨hlts, hI⟩ ⟨hpre, hx, hxn, _, _⟩
                      have hdrop := drop_next hpre
                      simp only at hdrop hx
                      have hkh : pre.length < hs.length := by
                        have := hpre.length_le
                        simp only [List.length_map, List.length_append, List.length_singleton] at this
                        omega
                      obtain ⟨g, o, hAe, hgw, _, hc, hr⟩ := hI.u.at_ hkh
                      subst hAe
                      have he1 : hs[pre.length].2.2 = tl := by
                        have h2 : (lists hs)[pre.length]? = some tl := by
                          have := congrArg (fun q => q[0]?) hdrop
                          simpa [List.getElem?_drop] using this
                        simp [hkh] at h2
                        exact h2
                      generalize hs[pre.length] = t at hc hr he1
                      obtain ⟨Uu, uc, ul⟩ := t
                      simp only at he1 hr
                      subst he1
                      replace hc : W.cell? ⟨g, o + pre.length, none⟩ = some (.slice Uu ul.length uc) := hc
                      have htl : ul ∈ L := by
                        have h1 : ul ∈ (lists hs).drop pre.length := by rw [hdrop]; exact List.mem_cons_self ..
                        have h2 := List.mem_of_mem_drop h1
                        rw [HFl.out] at h2
                        exact (List.mem_filter.1 h2).1
                      have HSm := Lib.hid (Same_any T Uu tq uc ul (right_fit (HGx.out.1 ul htl).1) W hx.row hr.row)
                      have h50 := hI.o18.cell 0
                      have q50 := hI.o18.lt
                      have h31 := hI.o14.cell 0
                      have q30 := hI.o14.lt
                      have HI0 := Lib.hid hI
                      have hk0 : (pre.length : Int) < (hs.length : Int) := by omega
                      have hk00 : (0 : Int) ≤ (pre.length : Int) := by omega
                      clear hI hx hr hdrop hpre htl
                      gi_wp2_with fail
                      refine (CallsIn.inRound l (callsIn_wide.2 HSm.out)).mono ?_
                      rintro e u1 ⟨rfl, b1⟩
                      have HI1 := Lib.hid (HI0.out.below b1)
                      have B1 := Lib.hid b1
                      clear b1 h50 q50 h31 q30 hc HSm
                      have h50 := HI1.out.o18.cell 0
                      have f50 := HI1.out.o18.frozen 0
                      have q50 := HI1.out.o18.lt
                      have h5 := HI1.out.o5.cell 0
                      have q5 := HI1.out.o5.lt
                      have h18 : wr.heap.size ≠ w.heap.size := by omega
                      have HQ : Hid (KeepsFrom w30.heap.size W (u1.setCell ⟨wr.heap.size, 0, none⟩ (.int .i64 ((pre.length : Int) + 1))) ∧ Kf [w.heap.size + 1] wr.heap.size 0 W (u1.setCell ⟨wr.heap.size, 0, none⟩ (.int .i64 ((pre.length : Int) + 1))) ∧
                          ClI w bx w11.heap.size wr.heap.size (tl0.length : Int) (stp : Int) (some ⟨g, o, none⟩) c0 tx hs Sx (pre ++ [((T, tq, ul) : TV)]).length (u1.setCell ⟨wr.heap.size, 0, none⟩ (.int .i64 ((pre.length : Int) + 1)))) := by
                        have e2 : (((pre ++ [((T, tq, ul) : TV)]).length : Nat) : Int) = (pre.length : Int) + 1 := by simp
                        have hb5 := HI1.out.bump hq18 hq14 (pre ++ [((T, tq, ul) : TV)]).length
                        rw [e2] at hb5
                        have kall : Kept [wr.heap.size] W (u1.setCell ⟨wr.heap.size, 0, none⟩ (.int .i64 ((pre.length : Int) + 1))) := (Kept.of _ B1.out).trans ((Kept.refl _ u1).setCell (.inl (by simp)) _) (Sub.refl _ _)
                        have hf0 : footL [w.heap.size + 1] wr.heap.size 0 W = [w.heap.size + 1] ++ [wr.heap.size] := foot_int _ (HI0.out.o18.cell 0)
                        have hf5 := foot_int [w.heap.size + 1] (hb5.o18.cell 0)
                        refine ⟨kall.keeps (fun k hk q hq => ?_) _, Kf.of_kept kall (fun k hk => by rw [hf0]; simp only [List.mem_singleton] at hk; simp [hk]) (by rw [hf5, hf0]; exact Sub.refl _ _) (fun k hk => by
                            rw [hf5] at hk
                            simp only [List.cons_append, List.nil_append, List.mem_cons, List.not_mem_nil, or_false] at hk
                            rcases hk with rfl | rfl
                            · exact hb5.o6.lt
                            · exact hb5.o18.lt), hb5⟩
                        simp only [List.mem_singleton] at hk
                        subst hk
                        have h8 := HI0.out.o18
                        unfold Own at h8
                        rw [h8] at hq
                        cases hq
                        rfl
                      by_cases hq : pre.length + 1 = stp
                      · have hqi : ((pre.length : Int) + 1 == (stp : Int)) = true := by rw [← hq]; simp
                        gi_wp2_with fail
                        exact ⟨HQ.out.1, rfl, by simpa using hq, HQ.out.2.2⟩
                      · have hqi : ((pre.length : Int) + 1 == (stp : Int)) = false := by simp only [beq_eq_false_iff_ne]; omega
                        gi_wp2_with fail
                        exact ⟨HQ.out.1, HQ.out.2.1, by simp only [List.length_append, List.length_singleton]; omega, HQ.out.2.2⟩
                    case done =>
                      rintro D ys W hD hys ⟨hlts, hI⟩ hK
                      have e1 : ys.length = hs.length := by have := congrArg List.length hys; simpa using this
                      rw [e1] at hI hlts
                      have h50 := hI.o18.cell 0
                      have q50 := hI.o18.lt
                      have h31 := hI.o14.cell 0
                      have q30 := hI.o14.lt
                      have h5 := hI.o5.cell 0
                      have q5 := hI.o5.lt
                      have h40 := hI.o6.cell 0
                      have f40 := hI.o6.frozen 0
                      have q40 := hI.o6.lt
                      have HII := Lib.hid hI
                      have HKD := Lib.hid hK
                      have HD := Lib.hid hD
                      have hmn : min (stp : Int) (hs.length : Int) = (hs.length : Int) := by omega
                      clear hI hK hys e1 hD
                      go_wp2
                      have hK2 : (W.setCell ⟨w.heap.size + 1, 0, none⟩ (.bool true)).heap[D]? = some (.deferred (some [])) := (KeepsOthers.setCell _ _ _).same D _ HKD.out rfl
                      have hO4 := HII.out.o6.set 0 (.bool true)
                      have hcm : Calm w30.heap.size (W.setCell ⟨w.heap.size + 1, 0, none⟩ (.bool true)) ((W.setCell ⟨w.heap.size + 1, 0, none⟩ (.bool true)).putObj D (.deferred none)) := Calm.put _ hK2 rfl HD.out
                      refine ⟨by simp, .inl ⟨_, _, rfl, run_takeDeferred hK2, ?_⟩⟩
                      exact ⟨.bool true, (by simp [results, Try.results5, go_sem, (hcm.own hO4).cell 0]), rfl, Below.calm (HII.out.low.setCell (p := ⟨w.heap.size + 1, 0, none⟩) (by simp) _) hcm (Nat.le_refl _) hlow30⟩
                    case stop =>
                      rintro D c pre W hD hpre ⟨rfl, hps, hI⟩ hK
                      have e1 : pre.length ≤ hs.length := by have := hpre.length_le; simpa using this
                      subst hps
                      have h50 := hI.o18.cell 0
                      have q50 := hI.o18.lt
                      have h31 := hI.o14.cell 0
                      have q30 := hI.o14.lt
                      have h5 := hI.o5.cell 0
                      have q5 := hI.o5.lt
                      have h40 := hI.o6.cell 0
                      have f40 := hI.o6.frozen 0
                      have q40 := hI.o6.lt
                      have HII := Lib.hid hI
                      have HKD := Lib.hid hK
                      have HD := Lib.hid hD
                      have hmn : min (pre.length : Int) (hs.length : Int) = (pre.length : Int) := by omega
                      clear hI hK hpre hD
                      gi_wp2
                      go_wp2
                      have hK2 : (W.setCell ⟨w.heap.size + 1, 0, none⟩ (.bool true)).heap[D]? = some (.deferred (some [])) := (KeepsOthers.setCell _ _ _).same D _ HKD.out rfl
                      have hO4 := HII.out.o6.set 0 (.bool true)
                      have hcm : Calm w30.heap.size (W.setCell ⟨w.heap.size + 1, 0, none⟩ (.bool true)) ((W.setCell ⟨w.heap.size + 1, 0, none⟩ (.bool true)).putObj D (.deferred none)) := Calm.put _ hK2 rfl HD.out
                      refine ⟨by simp, .inl ⟨_, _, rfl, run_takeDeferred hK2, ?_⟩⟩
                      exact ⟨.bool true, (by simp [results, Try.results5, go_sem, (hcm.own hO4).cell 0]), rfl, Below.calm (HII.out.low.setCell (p := ⟨w.heap.size + 1, 0, none⟩) (by simp) _) hcm (Nat.le_refl _) hlow30⟩
              · have hSI : HereI w11 (0, 0, noText) [] ((w11.alloc (.cells #[.slice none 0 0] 31)).alloc (.cells #[.int .i64 0, .int .i64 0, .string noText] 48)) := ⟨hwq0, hQ15, _, [], hQ14, .inl ⟨rfl, rfl, rfl⟩, fun _ h => by cases h⟩
                clear hwq0 hQ14 hQ15 hcz0 hx0
                gi_wp2_with fail
                refine wpIn_wide.2 ?_
                clear ha1
                obtain ⟨v, hv⟩ : ∃ v : V3, v = (0, 0, noText) := ⟨_, rfl⟩
                rw [← hv] at hSI
                clear hv
                obtain ⟨wS, hwS⟩ : ∃ wS, wS = (w11.alloc (.cells #[.slice none 0 0] 31)).alloc (.cells #[.int .i64 0, .int .i64 0, .string noText] 48) := ⟨_, rfl⟩
                rw [← hwS] at hSI ⊢
                have HSI := Lib.hid hSI
                clear hSI hwS
                obtain ⟨us, ⟨Au, cu, hmv, _, _, hlu, _, _⟩, hus⟩ := HM11.out
                simp only [rv3, Value.agg.injEq, Array.mk.injEq, List.cons.injEq, Value.slice.injEq, and_true, true_and] at hmv
                obtain ⟨e1, e2, e3⟩ := hmv
                subst e1 e2 e3
                have HU := Lib.hid hlu
                have HUs := Lib.hid hus
                have hul : us.length ≤ 60 := by have := HLx.out; rw [← HUs.out] at this; simpa using this
                have s10 := (HSI.out.low.cell (p := ⟨w5.heap.size, 1, none⟩) qa).trans HA1.out
                have HTl : Hid (∀ t ∈ us, t.2.2.length = tl0.length) := fun t ht => by
                  have := (HGx.out.1 t.2.2 (by rw [← HUs.out]; exact List.mem_map_of_mem ht)).2
                  omega
                obtain ⟨i0, hi0, hzz0, hzs, hzb⟩ := info_parts infoTup
                clear hlu hus
                try refine wpIn_wide.2 ?_
                try go_wp2_with fail
                clear s10
                go_loopw [123] (fun i wr => ∃ k : Nat, k ≤ us.length ∧ i = .int .i64 k ∧ Hid (HereI w11 v ((us.take k).filter fun t => colT z0 v t.2.2) wr)) (fun i _ => us.length - (intOf i).toNat)
                case atStart => exact ⟨0, Nat.zero_le _, rfl, HSI⟩
                case round =>
                  obtain ⟨k, hk, rfl, HH⟩ := hrel
                  by_cases hlt : k < us.length
                  · obtain ⟨gu, ou, hA2, hgu, _, hcu1, hru⟩ := (HU.out.below HH.out.low).at_ hlt
                    subst hA2
                    have hlx := HTl.out us[k] (List.getElem_mem hlt)
                    have HFS := Lib.hid (fil_snoc (p := fun t => colT z0 v t.2.2) hlt)
                    obtain ⟨t, ht⟩ : ∃ t, us[k] = t := ⟨_, rfl⟩
                    rw [ht] at hcu1 hru hlx HFS
                    obtain ⟨X, xc, xl⟩ := t
                    simp only at hru hlx HFS
                    replace hcu1 : wr.cell? ⟨gu, ou + k, none⟩ = some (.slice X xl.length xc) := hcu1
                    have hz := (HH.out.low.cell (p := ⟨Cb, Co, none⟩) hCb).trans HCZ.out
                    have p0 := HH.out.o15.cell 0
                    have p1 := HH.out.o15.cell 1
                    have p2 := HH.out.o15.cell 2
                    have pq := HH.out.o15.lt
                    have hq1 := World.block_lt_of_cell? wr _ hz
                    rw [hlx] at hcu1
                    have HNo : Hid (∀ q, colT z0 v xl = false → HereI w11 v ((us.take (k + 1)).filter fun t => colT z0 v t.2.2) (wr.drewN q)) := fun q h => by
                      rw [HFS.out, h]
                      simpa using HH.out.below (below_drewN (Below.refl _ _) q)
                    clear ht
                    by_cases h0 : 0 ≤ z0
                    · obtain ⟨m, rfl⟩ : ∃ m : Nat, z0 = (m : Int) := ⟨z0.toNat, by omega⟩
                      by_cases h1 : (m : Int) < (tl0.length : Int)
                      · exact absurd h1 (by omega)
                      · have HN : Hid (colT (m : Int) v xl = false) := by show _ = _; simp [colT, hlx, h1]
                        have hd0 : decide ((0 : Int) ≤ (m : Int)) = true := by simp
                        have hd1 : decide (m < tl0.length) = false := decide_eq_false (by omega)
                        clear h1 hru
                        go_wp2_with fail
                        go_quiet (fail)
                        have HQ := Lib.hid (HNo.out nq HN.out)
                        clear HNo hcu1 hz p0 p1 p2 hd0 hd1
                        go_wp2
                        go_roundw
                        case rel => exact ⟨k + 1, by omega, by go_num, HQ⟩
                        case measure => simp [intOf]; omega
                    · have HN : Hid (colT z0 v xl = false) := by show _ = _; simp [colT, h0]
                      have hd0 : decide (0 ≤ z0) = false := decide_eq_false h0
                      clear h0 hru
                      go_wp2_with fail
                      go_quiet (fail)
                      have HQ := Lib.hid (HNo.out nq HN.out)
                      clear HNo hcu1 hz p0 p1 p2 hd0
                      go_wp2
                      go_roundw
                      case rel => exact ⟨k + 1, by omega, by go_num, HQ⟩
                      case measure => simp [intOf]; omega
                  · have hkl : k = us.length := by omega
                    subst hkl
                    have hq0 : ((us.take us.length).filter fun t => colT z0 v t.2.2) = us.filter fun t => colT z0 v t.2.2 := by rw [List.take_length]
                    rw [hq0] at HH
                    have HFl : Hid (lists (us.filter fun t => colT z0 v t.2.2) = L.filter (colT z0 v)) := by show _ = _; rw [lists_filter (colT z0 v) us, HUs.out]
                    have hml : ∀ t ∈ us.filter fun t => colT z0 v t.2.2, t ∈ us := fun t ht => (List.mem_filter.1 ht).1
                    have HRo : Hid (∀ t ∈ us.filter fun t => colT z0 v t.2.2, RowO [] wr t.1 t.2.2) := fun t ht => (HU.out.below HH.out.low).2 t (hml t ht)
                    have hhl : (us.filter fun t => colT z0 v t.2.2).length ≤ us.length := List.length_filter_le _ _
                    clear hq0 hml
                    generalize (us.filter fun t => colT z0 v t.2.2) = hs at HH HFl HRo hhl
                    obtain ⟨v14, G, hO, ha, hG⟩ := HH.out.o14
                    obtain ⟨A0, c0, rfl⟩ := ha.val
                    have ⟨A1, c1, hval, hA1, hlst, _⟩ := ha.lst [] (fun _ _ h => by cases h) HRo.out
                    injection hval with hv1 _ hv2
                    subst hv1 hv2
                    have HLs := Lib.hid hlst
                    have HO14 := Lib.hid hO
                    have HO5 := Lib.hid (O5.out.below HH.out.low)
                    have hc5 := HO5.out.cell 0
                    have f5 := HO5.out.frozen 0
                    have q5 := HO5.out.lt
                    obtain ⟨stp, hst, hs1, hs10⟩ := stop_range st
                    have HST := Lib.hid hst
                    clear hlst hO ha hG hst
                    go_wp2_with fail
                    refine wpIn_wide.2 ?_
                    go_wp2_with fail
                    rw [HST.out]
                    clear hc5 f5 q5
                    have hlow := HH.out.low.size
                    have h6lt := O6.out.lt
                    have hcz1 := (HH.out.low.cell (p := ⟨Cb, Co, none⟩) hCb).trans HCZ.out
                    have hcb1 := World.block_lt_of_cell? wr _ hcz1
                    obtain ⟨hr26, hu26⟩ := rel_set (y := (stp : Int)) (HX11.out.below HH.out.low) HLs.out HO5.out
                    have kb : Kept [w.heap.size] wr (wr.setCell ⟨w.heap.size, 0, none⟩ (.int .i64 (stp : Int))) := (Kept.refl _ wr).setCell (.inl (by simp)) _
                    have hbA : Below (wr.setCell ⟨w.heap.size, 0, none⟩ (.int .i64 (stp : Int))).heap.size (wr.setCell ⟨w.heap.size, 0, none⟩ (.int .i64 (stp : Int))) ((wr.setCell ⟨w.heap.size, 0, none⟩ (.int .i64 (stp : Int))).alloc (.cells #[.int .i64 0] 3)).drew := ((Below.refl _ _).alloc (Nat.le_refl _) _).drew
                    have o18 : Own ((wr.setCell ⟨w.heap.size, 0, none⟩ (.int .i64 (stp : Int))).alloc (.cells #[.int .i64 0] 3)).drew wr.heap.size 3 [.int .i64 0] := by
                      have h1 : Own ((wr.setCell ⟨w.heap.size, 0, none⟩ (.int .i64 (stp : Int))).alloc (.cells #[.int .i64 0] 3)) (wr.setCell ⟨w.heap.size, 0, none⟩ (.int .i64 (stp : Int))).heap.size 3 [.int .i64 0] := heap_alloc_new _ _
                      rw [show (wr.setCell ⟨w.heap.size, 0, none⟩ (.int .i64 (stp : Int))).heap.size = wr.heap.size by simp] at h1
                      exact h1.below (Below.refl _ _).drew
                    have hlow26 : Below w.heap.size w ((wr.setCell ⟨w.heap.size, 0, none⟩ (.int .i64 (stp : Int))).alloc (.cells #[.int .i64 0] 3)).drew := ((((B11.out.trans (HH.out.low.mono B11.out.size)).setCell (p := ⟨w.heap.size, 0, none⟩) (Nat.le_refl _) _).alloc (by have := B11.out.size; simp; omega) _).drew)
                    have hI26 : ClI w bx w11.heap.size wr.heap.size (tl0.length : Int) (stp : Int) A0 c0 tx hs Sx 0 ((wr.setCell ⟨w.heap.size, 0, none⟩ (.int .i64 (stp : Int))).alloc (.cells #[.int .i64 0] 3)).drew :=
                      ⟨hr26.below hbA, hu26.below hbA, (HO5.out.set 0 _).below hbA, (kb.own (O6.out.below HH.out.low) (by simp)).below hbA, (kb.own HO14.out (by simp only [List.mem_singleton]; omega)).below hbA, o18, hlow26⟩
                    have z0w : w.cell? ⟨Cb, Co, none⟩ = some (.int .i64 z0) := (B11.out.cell (p := ⟨Cb, Co, none⟩) HCW.out).symm.trans HCZ.out
                    have z26 := (hlow26.cell (p := ⟨Cb, Co, none⟩) HCW.out).trans z0w
                    have hv26 : Own ((wr.setCell ⟨w.heap.size, 0, none⟩ (.int .i64 (stp : Int))).alloc (.cells #[.int .i64 0] 3)).drew (w11.heap.size + 1) 48 [.int .i64 v.1, .int .i64 v.2.1, .string v.2.2] := (kb.own HH.out.o15 (by simp only [List.mem_singleton]; omega)).below hbA
                    have hs26 : ((wr.setCell ⟨w.heap.size, 0, none⟩ (.int .i64 (stp : Int))).alloc (.cells #[.int .i64 0] 3)).drew.heap.size = wr.heap.size + 1 := by
                      show (World.alloc _ _).heap.size = _
                      simp
                    obtain ⟨wq, hwq⟩ : ∃ wq, wq = ((wr.setCell ⟨w.heap.size, 0, none⟩ (.int .i64 (stp : Int))).alloc (.cells #[.int .i64 0] 3)).drew := ⟨_, rfl⟩
                    rw [← hwq] at hI26 z26 hv26 hs26
                    have HI26 := Lib.hid hI26
                    have HS26 := Lib.hid hs26
                    have HW26 := Lib.hid hwq
                    have p0 := hv26.cell 0
                    have p1 := hv26.cell 1
                    have p2 := hv26.cell 2
                    have pq := hv26.lt
                    have hq1 := World.block_lt_of_cell? wq _ z26
                    have HR26 : Hid (∀ t ∈ tx, RowO [w.heap.size + 1, wr.heap.size] wq t.1 t.2.2) := fun t ht => by
                      have h1 := ((hI26.r.rows t ht).off_box hI26.o6)
                      have h2 := (h1.off_box hI26.o18)
                      exact h2.fewer (fun k hk => .inl (by simp only [List.mem_cons, List.not_mem_nil, or_false] at hk; rcases hk with rfl | rfl <;> simp))
                    have HWh := Lib.hid (fun W => Where_any bx z0 v W)
                    clear hwq hI26 z0w hs26 hv26 kb hbA o18 hlow26 hr26 hu26 hcz1
                    refine wp_region_still_tail 5 (by kernel_rfl) (by kernel_rfl) ?_
                    simp only [List.take_succ_cons, List.take_zero, List.drop_succ_cons, List.drop_zero]
                    change wpStill _ _ (World.drew _) _ _ _
                    rw [← HW26.out]
                    repeat still_step
                    refine wpStill_nil ?_
                    change wpList _ _ _ _ _ (World.drew _)
                    rw [← HW26.out]
                    clear p0 p1 p2 pq z26 hq1
                    go_wp2_with fail
                    refine (HWh.out _).mono ?_
                    rintro e w30 ⟨rfl, hw30⟩
                    obtain ⟨hb30, o30z, o30v, o30b, o30f⟩ := where_mem wq w30 bx z0 v _ hw30
                    have HI30 := Lib.hid (HI26.out.below hb30)
                    have HR30 : Hid (∀ t ∈ tx, RowO [w.heap.size + 1, wr.heap.size] w30 t.1 t.2.2) := fun t ht => (HR26.out t ht).below hb30
                    have OZ := Lib.hid o30z
                    have OV := Lib.hid o30v
                    have OB := Lib.hid o30b
                    have OF := Lib.hid o30f
                    have HS30 := Lib.hid hb30.size
                    have HGt : Hid (Good (tl0.length : Int) (lists tx)) := HGX
                    have hlow30 : w.heap.size ≤ w30.heap.size := HI30.out.low.size
                    have HFx : Hid ((lists tx).filter (colT z0 v) = lists hs) := by show _ = _; rw [HXL.out, HFl.out]
                    clear hw30 hb30 o30z o30v o30b o30f HWh HW26 HI26 HR26 HU HTl HUs HX HX11 HM11 HO5 HO14 HLs HRo
                    have hq18 : w.heap.size + 2 ≤ wr.heap.size := by omega
                    have hq14 : w11.heap.size ≠ wr.heap.size := by have := HH.out.o15.lt; omega
                    go_wp2_with fail
                    refine (wpIn_wide (n := 9)).1 ?_
                    refine' range_law (Kp := Kf [w.heap.size + 1] wr.heap.size 0) (Px := Yd [w.heap.size + 1] wr.heap.size 0 0 (lists hs)) (S := fun ys => lists ys = lists hs) (Sp := fun pre => lists pre <+: lists hs) (encs := fun x : TV => #[tval x]) rfl (by omega) (gf := 75) (lb := #[.pointer (some ⟨wq.heap.size + 2, 0, none⟩), .pointer (some ⟨wq.heap.size + 3, 0, none⟩)]) rfl n75 (enters_of Try.func75 (by kernel_rfl) rfl)
                      ?seq (fun h h' => h.trans h') (fun U V hU hc => Kf.of_calm hc (by have := HS26.out; have := HS30.out; omega) (by have := HS26.out; have := HS30.out; omega)) (fun _ => rfl)
                      (fun pre W => pre.length < stp ∧ ClI w bx w11.heap.size wr.heap.size (tl0.length : Int) (stp : Int) A0 c0 tx hs Sx pre.length W) (fun c pre W => c = Code.exit 2 ∧ pre.length = stp ∧ ClI w bx w11.heap.size wr.heap.size (tl0.length : Int) (stp : Int) A0 c0 tx hs Sx pre.length W) (fun pre U V h hc => ⟨h.1, h.2.calm hc hlow30⟩) (fun c pre U V h hc => ⟨h.1, h.2.1, h.2.2.calm hc hlow30⟩)
                      (fun pre x U V h hc => ?px) ⟨by simp; omega, HI30.out⟩ _ ?assign ?body ?done ?stop
                    case assign =>
                      intro l x W K hK
                      gi_wp2
                      exact hK
                    case px =>
                      obtain ⟨h1, h2, h3, h4, h5⟩ := h
                      refine ⟨h1, ?_, h3, Nat.lt_of_lt_of_le h4 hc.size, h5⟩
                      rw [foot_same (calm_cell hc h4 (by have := HS26.out; have := HS30.out; omega))]
                      exact h2.calm hc
                    case seq =>
                      intro l J Jx W hW hJ hJx hY h0
                      have hIW := HI30.out.below hW
                      obtain ⟨A1, c1, ho1, hA1, hl1, _⟩ := hIW.r.open_
                      have hfW : footL [w.heap.size + 1] wr.heap.size 0 W = [w.heap.size + 1] ++ [wr.heap.size] := foot_int _ (hIW.o18.cell 0)
                      have h7 : wr.heap.size < W.heap.size := hIW.o18.lt
                      have hs26 := HS26.out
                      have hnf : ∀ j, wq.heap.size + j ∉ footL [w.heap.size + 1] wr.heap.size 0 W := fun j hm => by
                        rw [hfW] at hm
                        simp only [List.cons_append, List.nil_append, List.mem_cons, List.not_mem_nil, or_false] at hm
                        omega
                      have hth := those_in 8 (by omega) l [w.heap.size + 1] wr.heap.size 0 0 (wq.heap.size + 2) (wq.heap.size + 3) 59 (rp bx) #[] #[.pointer (some ⟨wq.heap.size, 0, none⟩), .pointer (some ⟨wq.heap.size + 1, 0, none⟩)] A1 c1 tx (colT z0 v) J Jx W (Nat.zero_le _) h7 ((OB.out.below hW).cell 0) ((OF.out.below hW).cell 0) (hnf 3)
                        (fun W' hb' => list_at bx _ _ W' ((Calm.of_below 0 hb').own ho1) A1 tx.length c1 rfl) hA1 hl1 (fun t ht => ⟨by rw [hfW]; exact (HR30.out t ht).below hW, by
                          obtain ⟨_, _, _, _, _, _, hh⟩ := hIW.r
                          exact (hh t ht).2, by
                          have := right_six (HGt.out.1 _ (List.mem_map_of_mem ht)).1
                          omega⟩) HGt.out.len (fun k hk => by
                          rw [hfW] at hk
                          simp only [List.cons_append, List.nil_append, List.mem_cons, List.not_mem_nil, or_false] at hk
                          omega) (enters_of Try.func59 (by kernel_rfl) rfl) (fun t W' ht hk hr => by
                          have k1 := hk.own (OZ.out.below hW) (hnf 0)
                          have k2 := hk.own (OV.out.below hW) (hnf 1)
                          refine Where1_any wq.heap.size (wq.heap.size + 1) z0 v t W' (k1.cell 0) ⟨k2.cell 0, k2.cell 1, k2.cell 2⟩ ?_ hr
                          have := right_six (HGt.out.1 _ (List.mem_map_of_mem ht)).1
                          unfold maxLen
                          omega) hJ hJx (by rw [HFx.out]; exact hY) h0
                      rw [HFx.out] at hth
                      exact hth
                    case body =>
                      rintro l pre ⟨T, tq, tl⟩ W ⟨hlts, hI⟩ ⟨hpre, hx, hxn, _, _⟩
                      have hdrop := drop_next hpre
                      simp only at hdrop hx
                      have hkh : pre.length < hs.length := by
                        have := hpre.length_le
                        simp only [List.length_map, List.length_append, List.length_singleton] at this
                        omega
                      obtain ⟨g, o, hAe, hgw, _, hc, hr⟩ := hI.u.at_ hkh
                      subst hAe
                      have he1 : hs[pre.length].2.2 = tl := by
                        have h2 : (lists hs)[pre.length]? = some tl := by
                          have := congrArg (fun q => q[0]?) hdrop
                          simpa [List.getElem?_drop] using this
                        simp [hkh] at h2
                        exact h2
                      generalize hs[pre.length] = t at hc hr he1
                      obtain ⟨Uu, uc, ul⟩ := t
                      simp only at he1 hr
                      subst he1
                      replace hc : W.cell? ⟨g, o + pre.length, none⟩ = some (.slice Uu ul.length uc) := hc
                      have htl : ul ∈ L := by
                        have h1 : ul ∈ (lists hs).drop pre.length := by rw [hdrop]; exact List.mem_cons_self ..
                        have h2 := List.mem_of_mem_drop h1
                        rw [HFl.out] at h2
                        exact (List.mem_filter.1 h2).1
                      have HSm := Lib.hid (Same_any T Uu tq uc ul (right_fit (HGx.out.1 ul htl).1) W hx.row hr.row)
                      have h50 := hI.o18.cell 0
                      have q50 := hI.o18.lt
                      have h31 := hI.o14.cell 0
                      have q30 := hI.o14.lt
                      have HI0 := Lib.hid hI
                      have hk0 : (pre.length : Int) < (hs.length : Int) := by omega
                      have hk00 : (0 : Int) ≤ (pre.length : Int) := by omega
                      clear hI hx hr hdrop hpre htl
                      gi_wp2_with fail
                      refine (CallsIn.inRound l (callsIn_wide.2 HSm.out)).mono ?_
                      rintro e u1 ⟨rfl, b1⟩
                      have HI1 := Lib.hid (HI0.out.below b1)
                      have B1 := Lib.hid b1
                      clear b1 h50 q50 h31 q30 hc HSm
                      have h50 := HI1.out.o18.cell 0
                      have f50 := HI1.out.o18.frozen 0
                      have q50 := HI1.out.o18.lt
                      have h5 := HI1.out.o5.cell 0
                      have q5 := HI1.out.o5.lt
                      have h18 : wr.heap.size ≠ w.heap.size := by omega
                      have HQ : Hid (KeepsFrom w30.heap.size W (u1.setCell ⟨wr.heap.size, 0, none⟩ (.int .i64 ((pre.length : Int) + 1))) ∧ Kf [w.heap.size + 1] wr.heap.size 0 W (u1.setCell ⟨wr.heap.size, 0, none⟩ (.int .i64 ((pre.length : Int) + 1))) ∧
                          ClI w bx w11.heap.size wr.heap.size (tl0.length : Int) (stp : Int) (some ⟨g, o, none⟩) c0 tx hs Sx (pre ++ [((T, tq, ul) : TV)]).length (u1.setCell ⟨wr.heap.size, 0, none⟩ (.int .i64 ((pre.length : Int) + 1)))) := by
                        have e2 : (((pre ++ [((T, tq, ul) : TV)]).length : Nat) : Int) = (pre.length : Int) + 1 := by simp
                        have hb5 := HI1.out.bump hq18 hq14 (pre ++ [((T, tq, ul) : TV)]).length
                        rw [e2] at hb5
                        have kall : Kept [wr.heap.size] W (u1.setCell ⟨wr.heap.size, 0, none⟩ (.int .i64 ((pre.length : Int) + 1))) := (Kept.of _ B1.out).trans ((Kept.refl _ u1).setCell (.inl (by simp)) _) (Sub.refl _ _)
                        have hf0 : footL [w.heap.size + 1] wr.heap.size 0 W = [w.heap.size + 1] ++ [wr.heap.size] := foot_int _ (HI0.out.o18.cell 0)
                        have hf5 := foot_int [w.heap.size + 1] (hb5.o18.cell 0)
                        refine ⟨kall.keeps (fun k hk q hq => ?_) _, Kf.of_kept kall (fun k hk => by rw [hf0]; simp only [List.mem_singleton] at hk; simp [hk]) (by rw [hf5, hf0]; exact Sub.refl _ _) (fun k hk => by
                            rw [hf5] at hk
                            simp only [List.cons_append, List.nil_append, List.mem_cons, List.not_mem_nil, or_false] at hk
                            rcases hk with rfl | rfl
                            · exact hb5.o6.lt
                            · exact hb5.o18.lt), hb5⟩
                        simp only [List.mem_singleton] at hk
                        subst hk
                        have h8 := HI0.out.o18
                        unfold Own at h8
                        rw [h8] at hq
                        cases hq
                        rfl
                      by_cases hq : pre.length + 1 = stp
                      · have hqi : ((pre.length : Int) + 1 == (stp : Int)) = true := by rw [← hq]; simp
                        gi_wp2_with fail
                        exact ⟨HQ.out.1, rfl, by simpa using hq, HQ.out.2.2⟩
                      · have hqi : ((pre.length : Int) + 1 == (stp : Int)) = false := by simp only [beq_eq_false_iff_ne]; omega
                        gi_wp2_with fail
                        exact ⟨HQ.out.1, HQ.out.2.1, by simp only [List.length_append, List.length_singleton]; omega, HQ.out.2.2⟩
                    case done =>
                      rintro D ys W hD hys ⟨hlts, hI⟩ hK
                      have e1 : ys.length = hs.length := by have := congrArg List.length hys; simpa using this
                      rw [e1] at hI hlts
                      have h50 := hI.o18.cell 0
                      have q50 := hI.o18.lt
                      have h31 := hI.o14.cell 0
                      have q30 := hI.o14.lt
                      have h5 := hI.o5.cell 0
                      have q5 := hI.o5.lt
                      have h40 := hI.o6.cell 0
                      have f40 := hI.o6.frozen 0
                      have q40 := hI.o6.lt
                      have HII := Lib.hid hI
                      have HKD := Lib.hid hK
                      have HD := Lib.hid hD
                      have hmn : min (stp : Int) (hs.length : Int) = (hs.length : Int) := by omega
                      clear hI hK hys e1 hD
                      go_wp2
                      have hK2 : (W.setCell ⟨w.heap.size + 1, 0, none⟩ (.bool true)).heap[D]? = some (.deferred (some [])) := (KeepsOthers.setCell _ _ _).same D _ HKD.out rfl
                      have hO4 := HII.out.o6.set 0 (.bool true)
                      have hcm : Calm w30.heap.size (W.setCell ⟨w.heap.size + 1, 0, none⟩ (.bool true)) ((W.setCell ⟨w.heap.size + 1, 0, none⟩ (.bool true)).putObj D (.deferred none)) := Calm.put _ hK2 rfl HD.out
                      refine ⟨by simp, .inl ⟨_, _, rfl, run_takeDeferred hK2, ?_⟩⟩
                      exact ⟨.bool true, (by simp [results, Try.results5, go_sem, (hcm.own hO4).cell 0]), rfl, Below.calm (HII.out.low.setCell (p := ⟨w.heap.size + 1, 0, none⟩) (by simp) _) hcm (Nat.le_refl _) hlow30⟩
                    case stop =>
                      rintro D c pre W hD hpre ⟨rfl, hps, hI⟩ hK
                      have e1 : pre.length ≤ hs.length := by have := hpre.length_le; simpa using this
                      subst hps
                      have h50 := hI.o18.cell 0
                      have q50 := hI.o18.lt
                      have h31 := hI.o14.cell 0
                      have q30 := hI.o14.lt
                      have h5 := hI.o5.cell 0
                      have q5 := hI.o5.lt
                      have h40 := hI.o6.cell 0
                      have f40 := hI.o6.frozen 0
                      have q40 := hI.o6.lt
                      have HII := Lib.hid hI
                      have HKD := Lib.hid hK
                      have HD := Lib.hid hD
                      have hmn : min (pre.length : Int) (hs.length : Int) = (pre.length : Int) := by omega
                      clear hI hK hpre hD
                      gi_wp2
                      go_wp2
                      have hK2 : (W.setCell ⟨w.heap.size + 1, 0, none⟩ (.bool true)).heap[D]? = some (.deferred (some [])) := (KeepsOthers.setCell _ _ _).same D _ HKD.out rfl
                      have hO4 := HII.out.o6.set 0 (.bool true)
                      have hcm : Calm w30.heap.size (W.setCell ⟨w.heap.size + 1, 0, none⟩ (.bool true)) ((W.setCell ⟨w.heap.size + 1, 0, none⟩ (.bool true)).putObj D (.deferred none)) := Calm.put _ hK2 rfl HD.out
                      refine ⟨by simp, .inl ⟨_, _, rfl, run_takeDeferred hK2, ?_⟩⟩
                      exact ⟨.bool true, (by simp [results, Try.results5, go_sem, (hcm.own hO4).cell 0]), rfl, Below.calm (HII.out.low.setCell (p := ⟨w.heap.size + 1, 0, none⟩) (by simp) _) hcm (Nat.le_refl _) hlow30⟩
        · have k2 := neq_eno n
          have hz : (n == 0) = false := by simpa using hn
          have he := err_eno hn
          have HN := Lib.hid (Num_any n w6)
          rw [he] at HN ⊢
          have h60 := O6.out.cell 0
          have f60 := O6.out.frozen 0
          have q60 := O6.out.lt
          clear he hn
          gi_wp2_with fail
          rw [← HW6.out]
          refine (callsIn_wide.2 HN.out).mono ?_
          rintro e w7 ⟨rfl, rfl⟩
          gi_wp2
          exact ⟨.bool true, (by simp [results, Try.results5, go_sem, (O6.out.set 0 (.bool true)).cell 0]), rfl, B6.out.setCell (p := ⟨w.heap.size + 1, 0, none⟩) (by simp) _⟩
end Go.Proofs.Ytbahmkhnnahddaa
