/- RelLaws' walk. Conditions: texts within the form's reach. -/
import Derived.Test.YtbahmkhnnahddaaRelY
namespace Go.Proofs.Ytbahmkhnnahddaa
open Go.RowKit Go.Deep Go.Shelf

theorem add_fits {a : Int} {L : List (List V3)} (x : List V3) (hr : rightT x = true) (ha : (x.length : Int) = a) (hl : L.length < 2000) :
    addE a L x = 0 ∧ (∀ y, y ∈ addL a L x ↔ y = x ∨ y ∈ L) ∧ (addL a L x).length ≤ L.length + 1 := by
  by_cases hf : fndT L x = true
  · have hb : addB a L x = false := by simp [addB, hf]
    refine ⟨by simp [addE, ha, hr, hf], fun y => ?_, ?_⟩
    · simp only [addL, hb]
      have := fnd_iff.1 hf
      constructor
      · exact fun h => .inr h
      · rintro (rfl | h)
        · exact this
        · exact h
    · simp [addL, hb]
  · have hf : fndT L x = false := by simpa using hf
    have hb : addB a L x = true := by simp [addB, hf, hr, ha, hl]
    refine ⟨addE_ok hb, fun y => ?_, ?_⟩
    · simp only [addL, hb, if_true]
      exact insT_mem
    · simp only [addL, hb, if_true, insT_len]
      exact Nat.le_refl _
theorem all_fits {a : Int} : ∀ (xs : List (List V3)) {L : List (List V3)}, (∀ x ∈ xs, rightT x = true ∧ (x.length : Int) = a) → L.length + xs.length ≤ 2000 →
    allE a L xs = 0 ∧ (∀ y, y ∈ allL a L xs ↔ y ∈ L ∨ y ∈ xs)
  | [], L, _, _ => ⟨rfl, fun y => by simp [allL]⟩
  | x :: r, L, h, hl => by
    simp only [List.length_cons] at hl
    obtain ⟨h1, h2, h3⟩ := add_fits (L := L) x (h x (List.mem_cons_self ..)).1 (h x (List.mem_cons_self ..)).2 (by omega)
    obtain ⟨i1, i2⟩ := all_fits r (L := addL a L x) (fun y hy => h y (List.mem_cons_of_mem _ hy)) (by omega)
    refine ⟨by simp only [allE, h1, if_true]; exact i1, fun y => ?_⟩
    simp only [allL, h1, if_true]
    rw [i2, h2]
    simp only [List.mem_cons]
    constructor
    · rintro ((h | h) | h)
      · exact .inr (.inl h)
      · exact .inl h
      · exact .inr (.inr h)
    · rintro (h | h | h)
      · exact .inl (.inr h)
      · exact .inl (.inl h)
      · exact .inr h
theorem allL_len {a : Int} : ∀ (xs : List (List V3)) {L : List (List V3)}, (allL a L xs).length ≤ L.length + xs.length
  | [], L => Nat.le_refl _
  | x :: r, L => by
    unfold allL
    split
    · have h := allL_len (a := a) r (L := addL a L x)
      have h2 : (addL a L x).length ≤ L.length + 1 := by
        unfold addL
        split
        · rw [insT_len]; exact Nat.le_refl _
        · omega
      simp only [List.length_cons]
      omega
    · simp only [List.length_cons]
      omega
theorem union_ok {a : Int} {X Y : List (List V3)} (hx : Good a X) (hy : Good a Y) (hl : X.length + Y.length ≤ 2000) : allE a X Y = 0 ∧ Good a (allL a X Y) ∧ ∀ y, y ∈ allL a X Y ↔ y ∈ X ∨ y ∈ Y := by
  obtain ⟨h1, h2⟩ := all_fits (a := a) Y (L := X) hy.1 hl
  exact ⟨h1, allL_good Y hx, h2⟩
/-- a union is in any order the same. -/
theorem union_comm {a : Int} {X Y : List (List V3)} (hx : Good a X) (hy : Good a Y) (hl : X.length + Y.length ≤ 2000) : allL a X Y = allL a Y X := by
  obtain ⟨_, g1, m1⟩ := union_ok hx hy hl
  obtain ⟨_, g2, m2⟩ := union_ok hy hx (by omega)
  refine sor_ext g1.2.1 g2.2.1 fun x => ?_
  rw [m1, m2]
  exact Or.comm
/-- what is in both, and in the first alone, is the first. -/
theorem parts_whole {a : Int} {X Y : List (List V3)} (hx : Good a X) (hl : X.length ≤ 1000) :
    allE a (X.filter fun x => !fndT Y x) (X.filter (fndT Y)) = 0 ∧ allL a (X.filter fun x => !fndT Y x) (X.filter (fndT Y)) = X := by
  have l1 := List.length_filter_le (fun x => !fndT Y x) X
  have l2 := List.length_filter_le (fndT Y) X
  obtain ⟨h1, g1, m1⟩ := union_ok (hx.filter fun x => !fndT Y x) (hx.filter (fndT Y)) (by omega)
  refine ⟨h1, sor_ext g1.2.1 hx.2.1 fun x => ?_⟩
  rw [m1, List.mem_filter, List.mem_filter]
  constructor
  · rintro (h | h)
    · exact h.1
    · exact h.1
  · intro h
    cases hq : fndT Y x with
    | true => exact .inr ⟨h, rfl⟩
    | false => exact .inl ⟨h, rfl⟩
theorem both_none {X Y : List (List V3)} : (X.filter fun x => !fndT Y x).filter (fndT Y) = [] := by
  rw [List.filter_filter]
  rw [List.filter_eq_nil_iff]
  intro x _
  cases fndT Y x <;> simp
/-- a list of tuples that came in. -/
structure InL (w : World) (A : Option Addr) (xs : List TV) : Prop where
  lst : Lst [] w A xs
  inb : ∀ t ∈ xs, Inb t.2.2 ∧ t.2.2.length ≤ maxLen
  none : ∀ t ∈ xs, t.1 = none → t.2.1 = 0
  len : xs.length ≤ maxLen
theorem InL.tok {w : World} {A : Option Addr} {xs : List TV} (h : InL w A xs) (hs : ∀ t ∈ xs, Small t) : ∀ t ∈ xs, Tok t := fun t ht => ⟨h.none t ht, (hs t ht).1, (hs t ht).2.fit⟩

set_option maxRecDepth 100000 in
set_option maxHeartbeats 2000000 in
theorem laws_walk (a : Int) (A A' : Option Addr) (c c' : Nat) (xs ys : List TV) (w : World) (hx : InL w A xs) (hy : InL w A' ys) :
    Calls Try.prog 6 #[.int .i64 a, .slice A xs.length c, .slice A' ys.length c'] w fun e w' => e = .returned (.bool true) ∧ Below w.heap.size w w' := by
  have HX := Lib.hid hx
  have HY := Lib.hid hy
  have HAl := Lib.hid (alive_any w)
  have HLx := Lib.hid (fun W (hb : Below w.heap.size w W) => Large_any A c xs W (hx.lst.below hb) hx.inb hx.len)
  have HLy := Lib.hid (fun W (hb : Below w.heap.size w W) => Large_any A' c' ys W (hy.lst.below hb) hy.inb hy.len)
  clear hx hy
  go_enter Try.func6, Try.ntmps6
  go_wp2_with fail
  refine HAl.out.mono ?_
  rintro e w1 ⟨rfl, b1⟩
  have B1 := Lib.hid b1
  clear b1
  go_wp2_with fail
  refine (HLx.out _ B1.out).mono ?_
  rintro e w2 ⟨r, rfl, hr, b2⟩
  have B2 := Lib.hid (B1.out.trans (b2.mono B1.out.size))
  have HRX := Lib.hid hr
  clear b2 hr B1
  cases r with
  | true =>
    go_wp2
    go_ret
    exact ⟨rfl, B2.out⟩
  | false =>
    go_wp2_with fail
    refine (HLy.out _ B2.out).mono ?_
    rintro e w3 ⟨r, rfl, hr, b3⟩
    have B3 := Lib.hid (B2.out.trans (b3.mono B2.out.size))
    have HRY := Lib.hid hr
    clear b3 hr B2
    cases r with
    | true =>
      go_wp2
      go_ret
      exact ⟨rfl, B3.out⟩
    | false =>
      have HSX := Lib.hid (HRX.out (by simp))
      have HSY := Lib.hid (HRY.out (by simp))
      have HOX := Lib.hid (Of_any a A c xs w3 (HX.out.lst.below B3.out) (HX.out.tok HSX.out.2) HX.out.len)
      have HOY := Lib.hid (fun W (hb : Below w.heap.size w W) => Of_any a A' c' ys W (HY.out.lst.below hb) (HY.out.tok HSY.out.2) HY.out.len)
      have HGX := Lib.hid (ofL_good a (lists xs))
      have HGY := Lib.hid (ofL_good a (lists ys))
      have HLX : Hid ((ofL a (lists xs)).length ≤ 60) := Nat.le_trans (allL_len (a := a) (lists xs) (L := [])) (by have := HSX.out.1; simpa using this)
      have HLY : Hid ((ofL a (lists ys)).length ≤ 60) := Nat.le_trans (allL_len (a := a) (lists ys) (L := [])) (by have := HSY.out.1; simpa using this)
      clear HRX HRY HLx HLy HAl HX HY HSX HSY
      generalize ofL a (lists xs) = X at HOX HGX HLX
      generalize ofE a (lists xs) = n at HOX
      generalize ofL a (lists ys) = Y at HOY HGY HLY
      generalize ofE a (lists ys) = m at HOY
      go_wp2_with fail
      refine HOX.out.mono ?_
      rintro e w4 (⟨h0, bx, rfl, tx, Sx, hr, hl, _, hb⟩ | ⟨h0, rfl, hb⟩)
      · have B4 := Lib.hid (B3.out.trans (hb.mono B3.out.size))
        have HXR := Lib.hid hr
        have HXL := Lib.hid hl
        clear hr hl hb h0 HOX B3
        go_wp2_with fail
        refine (HOY.out _ B4.out).mono ?_
        rintro e w5 (⟨h0, by', rfl, ty, Sy, hr, hl, _, hb⟩ | ⟨h0, rfl, hb⟩)
        · have B5 := Lib.hid (B4.out.trans (hb.mono B4.out.size))
          have HYR := Lib.hid hr
          have HYL := Lib.hid hl
          have HXR := Lib.hid (HXR.out.below hb)
          clear hr hl hb h0 HOY B4
          have k1 := neq_nil
          have k2 := eql_nil
          have HGX' : Hid (Good a (lists tx)) := by show Good a (lists tx); rw [HXL.out]; exact HGX.out
          have HGY' : Hid (Good a (lists ty)) := by show Good a (lists ty); rw [HYL.out]; exact HGY.out
          have HUo := Lib.hid (union_ok HGX.out HGY.out (by have := HLX.out; have := HLY.out; omega))
          have HVo := Lib.hid (union_ok HGY.out HGX.out (by have := HLX.out; have := HLY.out; omega))
          have HCo := Lib.hid (union_comm HGX.out HGY.out (by have := HLX.out; have := HLY.out; omega))
          have HPo := Lib.hid (parts_whole (Y := Y) HGX.out (by have := HLX.out; omega))
          have HU := Lib.hid (fun W (hb : Below w5.heap.size w5 W) => Union_any bx by' a tx ty Sx Sy W (HXR.out.below hb) (HYR.out.below hb) HGX'.out HGY'.out)
          have HV := Lib.hid (fun W (hb : Below w5.heap.size w5 W) => Union_any by' bx a ty tx Sy Sx W (HYR.out.below hb) (HXR.out.below hb) HGY'.out HGX'.out)
          have HM := Lib.hid (fun W (hb : Below w5.heap.size w5 W) => Minus_any bx by' a tx ty Sx Sy W (HXR.out.below hb) (HYR.out.below hb) HGX'.out HGY'.out)
          have HW := Lib.hid (fun W (hb : Below w5.heap.size w5 W) => Both_any bx by' a tx ty Sx Sy W (HXR.out.below hb) (HYR.out.below hb) HGX'.out HGY'.out)
          rw [HXL.out, HYL.out] at HU HV HM HW
          rw [HUo.out.1] at HU
          rw [HVo.out.1, ← HCo.out] at HV
          go_wp2_with fail
          refine (HU.out _ (Below.refl _ _)).mono ?_
          rintro e w6 (⟨_, bu, rfl, tu, Su, hru, hlu, _, hb6⟩ | ⟨h0, _⟩)
          · have HUR := Lib.hid hru
            have HUL := Lib.hid hlu
            have B6 := Lib.hid hb6
            clear hru hlu hb6 HU
            go_wp2_with fail
            refine (HV.out _ B6.out).mono ?_
            rintro e w7 (⟨_, bv, rfl, tv, Sv, hrv, hlv, _, hb7⟩ | ⟨h0, _⟩)
            · have HVR := Lib.hid hrv
              have HVL := Lib.hid hlv
              have HUR := Lib.hid (HUR.out.below hb7)
              have B7 := Lib.hid (B6.out.trans (hb7.mono B6.out.size))
              clear hrv hlv hb7 HV B6
              go_wp2_with fail
              refine (HM.out _ B7.out).mono ?_
              rintro e w8 (⟨_, bd, rfl, td, Sd, hrd, hld, _, hb8⟩ | ⟨h0, _⟩)
              · have HDR := Lib.hid hrd
                have HDL := Lib.hid hld
                have HUR := Lib.hid (HUR.out.below hb8)
                have HVR := Lib.hid (HVR.out.below hb8)
                have B8 := Lib.hid (B7.out.trans (hb8.mono B7.out.size))
                clear hrd hld hb8 HM B7
                go_wp2_with fail
                refine (HW.out _ B8.out).mono ?_
                rintro e w9 (⟨_, bw, rfl, tw, Sw, hrw, hlw, _, hb9⟩ | ⟨h0, _⟩)
                · have HWR := Lib.hid hrw
                  have HWL := Lib.hid hlw
                  have HUR := Lib.hid (HUR.out.below hb9)
                  have HVR := Lib.hid (HVR.out.below hb9)
                  have HDR := Lib.hid (HDR.out.below hb9)
                  have B9 := Lib.hid (B8.out.trans (hb9.mono B8.out.size))
                  clear hrw hlw hb9 HW B8
                  have HGU : Hid (Good a (lists tu)) := by show Good a (lists tu); rw [HUL.out]; exact HUo.out.2.1
                  have HGV : Hid (Good a (lists tv)) := by show Good a (lists tv); rw [HVL.out]; exact HUo.out.2.1
                  have HGD : Hid (Good a (lists td)) := by show Good a (lists td); rw [HDL.out]; exact HGX.out.filter _
                  have HGW : Hid (Good a (lists tw)) := by show Good a (lists tw); rw [HWL.out]; exact HGX.out.filter _
                  have HSm := Lib.hid (Same_rel bu bv a tu tv Su Sv w9 HUR.out HVR.out HGU.out HGV.out)
                  rw [HUL.out, HVL.out, same_self] at HSm
                  go_wp2_with fail
                  refine HSm.out.mono ?_
                  rintro e w10 ⟨rfl, hb10⟩
                  have HDR := Lib.hid (HDR.out.below hb10)
                  have HWR := Lib.hid (HWR.out.below hb10)
                  have B10 := Lib.hid (B9.out.trans (hb10.mono B9.out.size))
                  clear hb10 HSm HUR HVR HGU HGV HUL HVL HUo HVo HCo
                  have HZ := Lib.hid (Union_any bd bw a td tw Sd Sw w10 HDR.out HWR.out HGD.out HGW.out)
                  rw [HDL.out, HWL.out, HPo.out.1, HPo.out.2] at HZ
                  go_wp2_with fail
                  refine HZ.out.mono ?_
                  rintro e w11 (⟨_, bz, rfl, tz, Sz, hrz, hlz, _, hb11⟩ | ⟨h0, _⟩)
                  · have HZR := Lib.hid hrz
                    have HZL := Lib.hid hlz
                    have HDR := Lib.hid (HDR.out.below hb11)
                    have B11 := Lib.hid (B10.out.trans (hb11.mono B10.out.size))
                    clear hrz hlz hb11 HZ B10 HWR HPo
                    have HNo := Lib.hid (Both_any bd by' a td ty Sd Sy w11 HDR.out (HYR.out.below B11.out) HGD.out HGY'.out)
                    rw [HDL.out, HYL.out, both_none] at HNo
                    go_wp2_with fail
                    refine HNo.out.mono ?_
                    rintro e w12 (⟨_, bn, rfl, tn, Sn, hrn, hln, _, hb12⟩ | ⟨h0, _⟩)
                    · have HZR := Lib.hid (HZR.out.below hb12)
                      have HNR := Lib.hid hrn
                      have htn : tn.length = 0 := by
                        have := congrArg List.length hln
                        simpa using this
                      have B12 := Lib.hid (B11.out.trans (hb12.mono B11.out.size))
                      have HGZ : Hid (Good a (lists tz)) := by show Good a (lists tz); rw [HZL.out]; exact HGX.out
                      have HSm := Lib.hid (Same_rel bz bx a tz tx Sz Sx w12 HZR.out (HXR.out.below B12.out) HGZ.out HGX'.out)
                      rw [HZL.out, HXL.out, same_self] at HSm
                      clear hrn hln hb12 HNo B11
                      go_wp2_with fail
                      refine HSm.out.mono ?_
                      rintro e w13 ⟨rfl, hb13⟩
                      have HLn := Lib.hid (Len_any bn a tn Sn w13 (HNR.out.below hb13))
                      rw [htn] at HLn
                      have BF := Lib.hid (B5.out.trans ((B12.out.trans (hb13.mono B12.out.size)).mono B5.out.size))
                      clear hb13 HSm htn
                      go_wp2_with fail
                      refine HLn.out.mono ?_
                      rintro e w14 ⟨rfl, rfl⟩
                      go_wp2
                      go_ret
                      exact ⟨rfl, BF.out⟩
                    · exact absurd rfl h0
                  · exact absurd rfl h0
                · exact absurd rfl h0
              · exact absurd rfl h0
            · exact absurd rfl h0
          · exact absurd rfl h0
        · have BF := Lib.hid (B4.out.trans (hb.mono B4.out.size))
          have k1 := neq_nil
          have k2 := neq_eno m
          clear hb h0
          go_wp2
          go_ret
          exact ⟨rfl, BF.out⟩
      · have B4 := Lib.hid (B3.out.trans (hb.mono B3.out.size))
        have k2 := neq_eno n
        clear hb h0 HOX B3
        go_wp2_with fail
        refine (HOY.out _ B4.out).mono ?_
        rintro e w5 (⟨h0, by', rfl, ty, Sy, hr, hl, _, hb⟩ | ⟨h0, rfl, hb⟩)
        · have BF := Lib.hid (B4.out.trans (hb.mono B4.out.size))
          clear hb h0 hr hl
          go_wp2
          go_ret
          exact ⟨rfl, BF.out⟩
        · have BF := Lib.hid (B4.out.trans (hb.mono B4.out.size))
          clear hb h0
          go_wp2
          go_ret
          exact ⟨rfl, BF.out⟩
end Go.Proofs.Ytbahmkhnnahddaa
