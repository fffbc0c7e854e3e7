/- RelSets' walk. Conditions: texts within the form's reach. -/
import Derived.Test.YtdgjpikipkjhhaaRelRi
import Derived.Test.YtdgjpikipkjhhaaRelRj
import Derived.Test.YtdgjpikipkjhhaaRelRk
import Derived.Deep.RegionHeld3
namespace Go.Proofs.Ytdgjpikipkjhhaa
open Go.RowKit Go.Deep Go.Shelf

/-- the document's two relations in their boxes. -/
abbrev Rx (W : World) (b b' : Nat) (a : Int) (A A' : Option Addr) (n c n' c' : Nat) (w : World) : Prop :=
  w.cell? ⟨b, 0, none⟩ = some (.int .i64 a) ∧ w.cell? ⟨b, 1, none⟩ = some (.slice A n c) ∧ w.cell? ⟨b', 0, none⟩ = some (.int .i64 a) ∧ w.cell? ⟨b', 1, none⟩ = some (.slice A' n' c') ∧ b < w.heap.size ∧ b' < w.heap.size ∧ Below W.heap.size W w
section
variable {W w w' : World} {b b' : Nat} {a : Int} {A A' : Option Addr} {n c n' c' : Nat}
theorem Rx.step (h : Rx W b b' a A A' n c n' c' w) (hb : Below w.heap.size w w') : Rx W b b' a A A' n c n' c' w' :=
  ⟨(hb.cell (p := ⟨b, 0, none⟩) h.2.2.2.2.1).trans h.1, (hb.cell (p := ⟨b, 1, none⟩) h.2.2.2.2.1).trans h.2.1, (hb.cell (p := ⟨b', 0, none⟩) h.2.2.2.2.2.1).trans h.2.2.1, (hb.cell (p := ⟨b', 1, none⟩) h.2.2.2.2.2.1).trans h.2.2.2.1,
    Nat.lt_of_lt_of_le h.2.2.2.2.1 hb.size, Nat.lt_of_lt_of_le h.2.2.2.2.2.1 hb.size, h.2.2.2.2.2.2.trans (hb.mono h.2.2.2.2.2.2.size)⟩
theorem rx_below (h : Rx W b b' a A A' n c n' c' w) : Below W.heap.size W w := h.2.2.2.2.2.2
end
theorem eql_ptr (w : World) : (binOp .eql 24 (.pointer none) (.pointer none)).run Try.prog w = .ok (.bool true) w := by kernel_rfl
theorem eql_rp (b : Nat) (w : World) : (binOp .eql 24 (rp b) (.pointer none)).run Try.prog w = .ok (.bool false) w := by kernel_rfl

set_option maxRecDepth 100000 in
set_option maxHeartbeats 8000000 in
theorem sets_walk (a : Int) (A A' : Option Addr) (c c' : Nat) (xs ys : List TV) (w : World) (hx : InL w A xs) (hy : InL w A' ys) :
    Calls Try.prog 4 #[.int .i64 a, .slice A xs.length c, .slice A' ys.length c'] w fun e w' => e = .returned (.bool true) ∧ Below w.heap.size w w' := by
  have HX := Lib.hid hx
  have HY := Lib.hid hy
  have HAl := Lib.hid (alive_any w)
  have HLx := Lib.hid (fun W (hb : Below w.heap.size w W) => Large_any A c xs W (hx.lst.below hb) hx.inb hx.len)
  have HLy := Lib.hid (fun W (hb : Below w.heap.size w W) => Large_any A' c' ys W (hy.lst.below hb) hy.inb hy.len)
  clear hx hy
  go_enter Try.func4, Try.ntmps4
  go_wp2_with fail
  refine HAl.out.mono ?_
  rintro e w1 ⟨rfl, b1⟩
  have B1 := Lib.hid b1
  clear b1
  go_wp2_with fail
  refine (HLx.out _ B1.out).mono ?_
  rintro e w2 ⟨r, rfl, hr, b2⟩
  have B2 := Lib.hid (B1.out.trans (b2.mono B1.out.size))
  have HRX := Lib.hid hr
  clear b2 hr B1
  cases r with
  | true =>
    go_wp2
    go_ret
    exact ⟨rfl, B2.out⟩
  | false =>
    go_wp2_with fail
    refine (HLy.out _ B2.out).mono ?_
    rintro e w3 ⟨r, rfl, hr, b3⟩
    have B3 := Lib.hid (B2.out.trans (b3.mono B2.out.size))
    have HRY := Lib.hid hr
    clear b3 hr B2
    cases r with
    | true =>
      go_wp2
      go_ret
      exact ⟨rfl, B3.out⟩
    | false =>
      have HSX := Lib.hid (HRX.out (by simp))
      have HSY := Lib.hid (HRY.out (by simp))
      have HOX := Lib.hid (OfV_any a A c xs w3 (HX.out.lst.below B3.out) (HX.out.tok HSX.out.2) HX.out.len)
      have HOY := Lib.hid (fun W (hb : Below w.heap.size w W) => OfV_any a A' c' ys W (HY.out.lst.below hb) (HY.out.tok HSY.out.2) HY.out.len)
      have HMX := Lib.hid (fun W (hb : Below w.heap.size w W) => ROfV_any a A c xs W (HX.out.lst.below hb) (HX.out.tok HSX.out.2) HX.out.len)
      have HMY := Lib.hid (fun W (hb : Below w.heap.size w W) => ROfV_any a A' c' ys W (HY.out.lst.below hb) (HY.out.tok HSY.out.2) HY.out.len)
      have HGX := Lib.hid (ofL_good a (lists xs))
      have HGY := Lib.hid (ofL_good a (lists ys))
      have HA6 : Hid (ofE a (lists xs) = 0 → a ≤ 6) := fun h => by
        unfold ofE at h
        split at h
        · cases h
        · omega
      have HLX : Hid ((ofL a (lists xs)).length ≤ 60) := Nat.le_trans (allL_len (a := a) (lists xs) (L := [])) (by have := HSX.out.1; simpa using this)
      have HLY : Hid ((ofL a (lists ys)).length ≤ 60) := Nat.le_trans (allL_len (a := a) (lists ys) (L := [])) (by have := HSY.out.1; simpa using this)
      clear HRX HRY HLx HLy HAl HX HY HSX HSY
      generalize ofL a (lists xs) = X at HOX HMX HGX HLX
      generalize ofE a (lists xs) = n at HOX HMX HA6
      generalize ofL a (lists ys) = Y at HOY HMY HGY HLY
      generalize ofE a (lists ys) = m at HOY HMY
      go_wp2_with fail
      refine HOX.out.mono ?_
      rintro e w4 ⟨x, rfl, hx1, hx2, hb⟩
      have B4 := Lib.hid (B3.out.trans (hb.mono B3.out.size))
      have X1 := Lib.hid hx1
      have X2 := Lib.hid hx2
      clear hx1 hx2 hb HOX B3
      go_wp2_with fail
      refine (HOY.out _ B4.out).mono ?_
      rintro e w5 ⟨y, rfl, hy1, hy2, hb⟩
      have B5 := Lib.hid (B4.out.trans (hb.mono B4.out.size))
      have Y1 := Lib.hid hy1
      have Y2 := Lib.hid hy2
      have C45 := Lib.hid hb
      clear hy1 hy2 hb HOY B4
      go_wp2_with fail
      refine (HMX.out _ B5.out).mono ?_
      rintro e w6 ⟨a2, A2, n2, c2, rfl, hm1, hb⟩
      have hb1 : Below w6.heap.size w6 (w6.alloc (.cells #[.int .i64 a2, .slice A2 n2 c2] 33)) := (Below.refl _ _).alloc (Nat.le_refl _) _
      have hbo : Own (w6.alloc (.cells #[.int .i64 a2, .slice A2 n2 c2] 33)) w6.heap.size 33 [.int .i64 a2, .slice A2 n2 c2] := heap_alloc_new w6 _
      have C56 := Lib.hid (hb.trans (hb1.mono hb.size))
      have B6 := Lib.hid (B5.out.trans (C56.out.mono B5.out.size))
      have M1 := Lib.hid (fun h => (hm1 h).below hb1)
      have O1 := Lib.hid hbo
      clear hb hm1 hb1 hbo HMX B5
      go_wp2_with fail
      refine (HMY.out _ B6.out).mono ?_
      rintro e w7 ⟨a3, A3, n3, c3, rfl, hm1, hb⟩
      have hb1 : Below w7.heap.size w7 (w7.alloc (.cells #[.int .i64 a3, .slice A3 n3 c3] 33)) := (Below.refl _ _).alloc (Nat.le_refl _) _
      have hbo : Own (w7.alloc (.cells #[.int .i64 a3, .slice A3 n3 c3] 33)) w7.heap.size 33 [.int .i64 a3, .slice A3 n3 c3] := heap_alloc_new w7 _
      have hb2 := hb.trans (hb1.mono hb.size)
      have C67 := Lib.hid (C56.out.trans (hb2.mono C56.out.size))
      have B7 := Lib.hid (B6.out.trans (hb2.mono B6.out.size))
      have M2 := Lib.hid (fun h => (hm1 h).below hb1)
      have M1 := Lib.hid (fun h => (M1.out h).below hb2)
      have O1 := Lib.hid (O1.out.below hb2)
      have O2 := Lib.hid hbo
      clear hb hm1 hb1 hbo hb2 HMY B6 C56
      obtain ⟨w8, hw8⟩ : ∃ w8, w8 = w7.alloc (.cells #[.int .i64 a3, .slice A3 n3 c3] 33) := ⟨_, rfl⟩
      rw [← hw8] at M1 M2 O1 O2 B7 C67
      have HW8 := Lib.hid hw8
      clear hw8
      go_wp2_with fail
      rw [← HW8.out]
      refine (Num_any n _).mono ?_
      rintro e w9 ⟨rfl, rfl⟩
      go_wp2_with fail
      refine (Num_any m _).mono ?_
      rintro e w9 ⟨rfl, rfl⟩
      clear HW8
      have k1 := eql_ptr
      have k2 := eql_rp
      by_cases hn : n = 0
      · by_cases hm : m = 0
        · subst hn hm
          obtain ⟨bx, tx, Sx, rfl, hr1, hl1⟩ := X1.out rfl
          obtain ⟨by', ty, Sy, rfl, hr2, hl2⟩ := Y1.out rfl
          have ha6 := HA6.out rfl
          have m1 := M1.out rfl
          have m2 := M2.out rfl
          obtain rfl : a2 = a := by
            obtain ⟨A9, c9, h9⟩ := m1.form
            simpa using (by simpa [rv3] using h9 : a2 = a ∧ _).1
          obtain rfl : a3 = a2 := by
            obtain ⟨A9, c9, h9⟩ := m2.form
            simpa using (by simpa [rv3] using h9 : a3 = a2 ∧ _).1
          have HXR := Lib.hid (hr1.below (C45.out.trans (C67.out.mono C45.out.size)))
          have HYR := Lib.hid (hr2.below C67.out)
          have HXL := Lib.hid hl1
          have HYL := Lib.hid hl2
          have HM1 := Lib.hid m1
          have HM2 := Lib.hid m2
          have HOk := Lib.hid (HGX.out.lok ha6)
          have HOk' := Lib.hid (HGY.out.lok ha6)
          have HLn := Lib.hid (And.intro HLX.out HLY.out)
          have HR0 := Lib.hid (show Rx w8 w6.heap.size w7.heap.size a3 A2 A3 n2 c2 n3 c3 w8 from ⟨O1.out.cell 0, O1.out.cell 1, O2.out.cell 0, O2.out.cell 1, O1.out.lt, O2.out.lt, Below.refl _ _⟩)
          clear hr1 hr2 hl1 hl2 m1 m2 ha6 k1 k2 X1 X2 Y1 Y2 M1 M2 HA6 C45 C67 HLX HLY O1 O2
          have k1 := neq_nil
          have k2 := eql_nil
          have HGX' : Hid (Good a3 (lists tx)) := by show Good a3 (lists tx); rw [HXL.out]; exact HGX.out
          have HGY' : Hid (Good a3 (lists ty)) := by show Good a3 (lists ty); rw [HYL.out]; exact HGY.out
          have HUo := Lib.hid (union_ok HGX.out HGY.out (by have := HLn.out; omega))
          have HPu := Lib.hid (union_put (a := a3) Y (L := X) HGY.out.1 (by have := HLn.out; omega))
          have HU := Lib.hid (fun W (hb : Below w8.heap.size w8 W) => Union_any bx by' a3 tx ty Sx Sy W (HXR.out.below hb) (HYR.out.below hb) HGX'.out HGY'.out)
          have HM := Lib.hid (fun W (hb : Below w8.heap.size w8 W) => Minus_any bx by' a3 tx ty Sx Sy W (HXR.out.below hb) (HYR.out.below hb) HGX'.out HGY'.out)
          have HW := Lib.hid (fun W (hb : Below w8.heap.size w8 W) => Both_any bx by' a3 tx ty Sx Sy W (HXR.out.below hb) (HYR.out.below hb) HGX'.out HGY'.out)
          have HRU := Lib.hid (fun W (hb : Below w8.heap.size w8 W) => refUnion_any [] a3 a3 _ _ X Y W (fun _ h => by cases h) (HM1.out.below hb) (HM2.out.below hb) HOk.out HOk'.out.2 (by have := HLn.out; omega))
          have HRM := Lib.hid (fun W (hb : Below w8.heap.size w8 W) => refMinus_any [] a3 a3 _ _ X Y W (fun _ h => by cases h) (HM1.out.below hb) (HM2.out.below hb) HOk.out.2 HOk'.out.2 (by have := HLn.out; omega) (by have := HLn.out; omega))
          have HRB := Lib.hid (fun W (hb : Below w8.heap.size w8 W) => refBoth_any [] a3 a3 _ _ X Y W (fun _ h => by cases h) (HM1.out.below hb) (HM2.out.below hb) HOk.out.2 HOk'.out.2 (by have := HLn.out; omega) (by have := HLn.out; omega))
          rw [HXL.out, HYL.out] at HU HM HW
          rw [HUo.out.1] at HU
          go_wp2_with fail
          refine (HU.out _ (Below.refl _ _)).mono ?_
          rintro e w9 (⟨_, bu, rfl, tu, Su, hru, hlu, _, hb9⟩ | ⟨h0, _⟩)
          · have HUR := Lib.hid hru
            have HUL := Lib.hid hlu
            have HR9 := Lib.hid (HR0.out.step hb9)
            clear hru hlu hb9 HU HR0
            go_wp2_with fail
            refine (HM.out _ (rx_below HR9.out)).mono ?_
            rintro e w10 (⟨_, bd, rfl, td, Sd, hrd, hld, _, hb10⟩ | ⟨h0, _⟩)
            · have HDR := Lib.hid hrd
              have HDL := Lib.hid hld
              have HUR := Lib.hid (HUR.out.below hb10)
              have HR10 := Lib.hid (HR9.out.step hb10)
              clear hrd hld hb10 HM HR9
              go_wp2_with fail
              refine (HW.out _ (rx_below HR10.out)).mono ?_
              rintro e w11 (⟨_, bw, rfl, tw, Sw, hrw, hlw, _, hb11⟩ | ⟨h0, _⟩)
              · have HWR := Lib.hid hrw
                have HWL := Lib.hid hlw
                have HUR := Lib.hid (HUR.out.below hb11)
                have HDR := Lib.hid (HDR.out.below hb11)
                have HR11 := Lib.hid (HR10.out.step hb11)
                obtain ⟨g1, g2, g3, g4, q1, q2, _⟩ := HR10.out.step hb11
                clear hrw hlw hb11 HW HR10
                go_wp2_with fail
                refine (HRU.out _ (rx_below HR11.out)).mono ?_
                rintro e w12 ⟨mu, rfl, hmu, hb12⟩
                obtain ⟨Au, cu, rfl⟩ := hmu.form
                generalize hnu : (Y.foldl putT X).length = nu at hmu
                have hbu : Below w12.heap.size w12 (w12.alloc (.cells #[.int .i64 a3, .slice Au nu cu] 33)) := (Below.refl _ _).alloc (Nat.le_refl _) _
                have hou : Own (w12.alloc (.cells #[.int .i64 a3, .slice Au nu cu] 33)) w12.heap.size 33 [.int .i64 a3, .slice Au nu cu] := heap_alloc_new w12 _
                have hb2 := hb12.trans (hbu.mono hb12.size)
                obtain ⟨w13, hw13⟩ : ∃ w13, w13 = w12.alloc (.cells #[.int .i64 a3, .slice Au nu cu] 33) := ⟨_, rfl⟩
                rw [← hw13] at hbu hou hb2
                have HMU := Lib.hid (hmu.below hbu)
                have HUR := Lib.hid (HUR.out.below hb2)
                have HDR := Lib.hid (HDR.out.below hb2)
                have HWR := Lib.hid (HWR.out.below hb2)
                have HR13 := Lib.hid (HR11.out.step hb2)
                have HW13 := Lib.hid hw13
                have HOU := Lib.hid hou
                clear g1 g2 g3 g4 q1 q2 HR11 hmu hbu hnu hw13 HRU hb2
                clear hb12 hou
                have HGU : Hid (Good a3 (lists tu)) := by show Good a3 (lists tu); rw [HUL.out]; exact HUo.out.2.1
                have HGD : Hid (Good a3 (lists td)) := by show Good a3 (lists td); rw [HDL.out]; exact HGX.out.filter _
                have HGW : Hid (Good a3 (lists tw)) := by show Good a3 (lists tw); rw [HWL.out]; exact HGX.out.filter _
                have h19 : w13.cell? ⟨w12.heap.size, 0, none⟩ = some (.int .i64 a3) := HOU.out.cell 0
                have h19b : w13.cell? ⟨w12.heap.size, 1, none⟩ = some (.slice Au nu cu) := HOU.out.cell 1
                have q19 : w12.heap.size < w13.heap.size := HOU.out.lt
                have HIU := Lib.hid (IsR_any bu a3 tu Su [] _ _ w13 HUR.out HGU.out HMU.out (by rw [HUL.out, HPu.out]))
                clear HUL HPu HUo HUR HGU HMU HOU
                obtain ⟨g1, g2, g3, g4, q1, q2, _⟩ := HR13.out
                go_wp2_with fail
                rw [← HW13.out]
                refine HIU.out.mono ?_
                rintro e w14 ⟨rfl, hb14⟩
                have HDR := Lib.hid (HDR.out.below hb14)
                have HWR := Lib.hid (HWR.out.below hb14)
                have HR14 := Lib.hid (HR13.out.step hb14)
                clear g1 g2 g3 g4 q1 q2 HR13 HIU h19 h19b q19 HW13
                obtain ⟨g1, g2, g3, g4, q1, q2, _⟩ := HR14.out
                clear hb14
                go_wp2_with fail
                refine (HRM.out _ (rx_below HR14.out)).mono ?_
                rintro e w15 ⟨md, rfl, hmd, hb15⟩
                have HR15 := Lib.hid (HR14.out.step hb15)
                have HWR := Lib.hid (HWR.out.below hb15)
                have HID := Lib.hid (IsR_any bd a3 td Sd [] _ _ w15 (HDR.out.below hb15) HGD.out hmd (by rw [HDL.out, minus_del]))
                clear g1 g2 g3 g4 q1 q2 HR14 HRM hmd hb15 HDR HGD HDL
                go_wp2_with fail
                refine HID.out.mono ?_
                rintro e w16 ⟨rfl, hb16⟩
                have HR16 := Lib.hid (HR15.out.step hb16)
                have HWR := Lib.hid (HWR.out.below hb16)
                clear HR15 HID hb16
                obtain ⟨g1, g2, g3, g4, q1, q2, _⟩ := HR16.out
                go_wp2_with fail
                refine (HRB.out _ (rx_below HR16.out)).mono ?_
                rintro e w17 ⟨mb, rfl, hmb, hb17⟩
                have HR17 := Lib.hid (HR16.out.step hb17)
                have HIW := Lib.hid (IsR_any bw a3 tw Sw [] _ _ w17 (HWR.out.below hb17) HGW.out hmb (by rw [HWL.out, both_del]))
                clear g1 g2 g3 g4 q1 q2 HR16 HRB hmb hb17 HWR HGW HWL
                go_wp2_with fail
                refine HIW.out.mono ?_
                rintro e w18 ⟨rfl, hb18⟩
                have HR18 := Lib.hid (HR17.out.step hb18)
                clear HR17 HIW hb18 k1 k2
                go_wp2_with fail
                refine (Union_nil2 bx _).mono ?_
                rintro e w19 ⟨rfl, hb19⟩
                have HR19 := Lib.hid (HR18.out.step hb19)
                clear HR18 hb19
                go_wp2_with fail
                refine (Minus_nil1 by' _).mono ?_
                rintro e w20 ⟨rfl, hb20⟩
                have HR20 := Lib.hid (HR19.out.step hb20)
                clear HR19 hb20
                have HSm := Lib.hid (fun W (hb : Below w8.heap.size w8 W) => Same_rel bx by' a3 tx ty Sx Sy W (HXR.out.below hb) (HYR.out.below hb) HGX'.out HGY'.out)
                rw [HXL.out, HYL.out] at HSm
                have HS3 := Lib.hid (fun W (hb : Below w8.heap.size w8 W) => refSame3_any a3 _ _ X Y W (HM1.out.below hb) (HM2.out.below hb) HOk.out.2 HOk'.out.2 (by have := HLn.out; omega) (by have := HLn.out; omega))
                have HIx := Lib.hid (fun W (hb : Below w8.heap.size w8 W) => IsR_any bx a3 tx Sx [] _ _ W (HXR.out.below hb) HGX'.out (HM1.out.below hb) HXL.out)
                have HIy := Lib.hid (fun W (hb : Below w8.heap.size w8 W) => IsR_any by' a3 ty Sy [] _ _ W (HYR.out.below hb) HGY'.out (HM2.out.below hb) HYL.out)
                have HIB : Hid (∀ v mm W, (v = rp bx ∧ mm = rv3 a3 A2 n2 c2 ∨ v = rp by' ∧ mm = rv3 a3 A3 n3 c3) → Below w8.heap.size w8 W → Calls Try.prog 20 #[v, mm] W fun e w' => e = .returned (.bool true) ∧ Below W.heap.size W w') := fun v mm W h hb => by
                  rcases h with ⟨rfl, rfl⟩ | ⟨rfl, rfl⟩
                  · exact HIx.out W hb
                  · exact HIy.out W hb
                clear HIx HIy
                generalize sameL X Y = q at HSm HS3
                have hqq : (q == q) = true := by simp
                clear HXR HYR HXL HYL HM1 HM2 HOk HOk' HLn HGX' HGY' HGX HGY
                have mixed : Try.prog.follows .mixedOrders = true := by kernel_rfl
                have HBf : Hid (∀ W, Below w8.heap.size w8 W → Below w.heap.size w W) := fun W hb => B7.out.trans (hb.mono B7.out.size)
                clear B7
                obtain ⟨b11, hb11⟩ : ∃ b, w6.heap.size = b := ⟨_, rfl⟩
                obtain ⟨b13, hb13⟩ : ∃ b, w7.heap.size = b := ⟨_, rfl⟩
                rw [hb11, hb13] at HR20 ⊢
                clear hb11 hb13
                go_wp2_with fail
                go_region_held3 (fun w' => w'.cell? ⟨b11, 0, none⟩ = some (.int .i64 a3) ∧ w'.cell? ⟨b11, 1, none⟩ = some (.slice A2 n2 c2) ∧ w'.cell? ⟨b13, 0, none⟩ = some (.int .i64 a3) ∧ w'.cell? ⟨b13, 1, none⟩ = some (.slice A3 n3 c3) ∧ b11 < w'.heap.size ∧ b13 < w'.heap.size ∧ Below w8.heap.size w8 w')
                  (first | (with_reducible assumption) | (with_reducible exact HR20.out.step (Below.refl _ _).drew) | (with_reducible exact Rx.step (by assumption) hb) | go_keep)
                  (first
                    | (go_at_call 30; refine (HSm.out _ ?_).mono ?_; exact rx_below (by assumption); rintro e w' ⟨rfl, hb⟩)
                    | (go_at_call 31; refine (HS3.out _ ?_).mono ?_; exact rx_below (by assumption); rintro e w' ⟨rfl, hb⟩)
                    | (go_at_call 20; refine (HIB.out _ _ _ ?_ ?_).mono ?_; (first | exact Or.inl ⟨rfl, rfl⟩ | exact Or.inr ⟨rfl, rfl⟩); exact rx_below (by assumption); rintro e w' ⟨rfl, hb⟩)
                    | (go_at_call 10; refine (Is_eno 13 13 _ rfl true rfl).mono ?_; rintro e w' ⟨rfl, rfl⟩))
                all_goals
                  go_wp2
                  go_ret
                  exact ⟨rfl, HBf.out _ (rx_below (by assumption))⟩
              · exact absurd rfl h0
            · exact absurd rfl h0
          · exact absurd rfl h0
        · subst hn
          obtain ⟨bx, tx, Sx, rfl, _, _⟩ := X1.out rfl
          obtain rfl := Y2.out hm
          go_wp2
          go_ret
          exact ⟨rfl, B7.out⟩
      · have hz : (n == 0) = false := by simpa using hn
        obtain rfl := X2.out hn
        by_cases hm : m = 0
        · subst hm
          obtain ⟨by', ty, Sy, rfl, _, _⟩ := Y1.out rfl
          have HQ : Hid ((n != 0) = true) := by show _ = true; simp [hn]
          clear hz
          go_wp2
          go_ret
          exact ⟨ret_bool HQ.out, B7.out⟩
        · have hz2 : (m == 0) = false := by simpa using hm
          have HQ : Hid ((n != 0 && m != 0) = true) := by show _ = true; simp [hn, hm]
          obtain rfl := Y2.out hm
          clear hm hn
          go_wp2
          go_ret
          exact ⟨ret_bool HQ.out, B7.out⟩
end Go.Proofs.Ytdgjpikipkjhhaa
