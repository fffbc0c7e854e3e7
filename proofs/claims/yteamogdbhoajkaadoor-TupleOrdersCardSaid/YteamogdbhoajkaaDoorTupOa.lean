/- TupleOrders' walk, way by way: the law's own steps. Conditions: the library's table; texts within the form's reach; that the chapter's example is so (proved beside). -/
import Derived.Test.YteamogdbhoajkaaDoorTupX
namespace Go.Proofs.YteamogdbhoajkaaDoor
open Go.RowKit Go.Deep

/-- an operation whose guard says yes goes as one without a guard. -/
theorem wpList_wanted {P : Program} {ops : Array Oper} {rest : List Oper} {o : Oper} {a : Act} {w : World} {Q : Exit → Act → World → Prop} (hw : Region.wanted o (yielded ops a.tmps) = true)
    (h : wpList P ops Q ({ o with guard := none } :: rest) a w) : wpList P ops Q (o :: rest) a w := by
  unfold wpList at h ⊢
  rw [if_pos hw]
  rw [if_pos (show Region.wanted { o with guard := none } (yielded ops a.tmps) = true from rfl)] at h
  exact h

set_option maxRecDepth 100000 in
set_option maxHeartbeats 2000000 in
theorem orders_lt_gt_many (hal : AliveOk) (A A' A2 : Option Addr) (c c' c2 : Nat) (a b d : List V3) (hl : a.length ≤ maxLen) (hl' : b.length ≤ maxLen) (hl2 : d.length ≤ maxLen) (hn : A = none → c = 0) (hn' : A' = none → c' = 0) (hi : Inb a) (hi' : Inb b) (hi2 : Inb d)
    (hla : lessT a b = true) (hlb : lessT b a = false) (hp : cmpT a b = -1) (hp2 : cmpT b a = 1) (hq : 0 < cmpT b d) (h6 : (6 : Int) < (a.length : Int) + (b.length : Int))
    (w : World) (hT : Tab w) (hr : Row w A a) (hr' : Row w A' b) (hr2 : Row w A2 d) :
    Calls Tryd.prog 5 #[.slice A a.length c, .slice A' b.length c', .slice A2 d.length c2] w fun e w' => e = .returned (.bool true) ∧ Below w.heap.size w w' := by
  have HLA := Lib.hid hla
  have HLB := Lib.hid hlb
  have HP := Lib.hid hp
  have HP2 := Lib.hid hp2
  have HQ := Lib.hid hq
  have HN := Lib.hid hn
  have HN' := Lib.hid hn'
  have HI := Lib.hid hi
  have HI' := Lib.hid hi'
  have HI2 := Lib.hid hi2
  have HT := Lib.hid hT
  have HR := Lib.hid hr
  have HR' := Lib.hid hr'
  have HR2 := Lib.hid hr2
  have HL := Lib.hid hl
  have HL' := Lib.hid hl'
  have HL2 := Lib.hid hl2
  have HAL := Lib.hid hal
  have H6 := Lib.hid h6
  clear hla hlb hp hp2 hn hn' hi hi' hi2 hT hr hr' hr2 hl hl' hl2 hal h6 hq
  go_enter Tryd.func5, Tryd.ntmps5
  go_wp2_with fail
  refine (HAL.out w HT.out).mono ?_
  rintro e w1 ⟨rfl, b1⟩
  have BA := Lib.hid (b1.alloc b1.size (.cells #[.slice A a.length c, .slice A' b.length c', .slice A2 d.length c2] 23))
  clear b1
  go_wp2_with fail
  refine (Long3 A A' A2 c c' c2 a b d _ _ (by simp) (by go_simp) (by go_simp) (by go_simp) (HR.out.below BA.out) HI.out HL.out (HR'.out.below BA.out) HI'.out HL'.out (HR2.out.below BA.out) HI2.out HL2.out).mono ?_
  rintro e w2 ⟨r, rfl, hsm, b2⟩
  have B2 := Lib.hid (BA.out.trans (b2.mono BA.out.size))
  clear b2
  cases r with
  | true =>
    clear hsm
    go_wp2
    go_ret
    exact ⟨rfl, B2.out⟩
  | false =>
    obtain ⟨h50, _⟩ := hsm rfl (A, c, a) (by simp)
    obtain ⟨h50', _⟩ := hsm rfl (A', c', b) (by simp)
    have h50 : a.length ≤ 50 := h50
    have h50' : b.length ≤ 50 := h50'
    clear hsm
    go_wp2_with fail
    refine (LessT_any A A' c c' a b HL.out HL'.out _ (HR.out.below B2.out) (HR'.out.below B2.out)).mono ?_
    rintro e w3 ⟨rfl, b3⟩
    have B3 := Lib.hid (B2.out.trans (b3.mono B2.out.size))
    clear b3
    rw [HLA.out]
    go_wp2_with fail
    refine (LessT_any A' A c' c b a HL'.out HL.out _ (HR'.out.below B3.out) (HR.out.below B3.out)).mono ?_
    rintro e w4 ⟨rfl, b4⟩
    have B4 := Lib.hid (B3.out.trans (b4.mono B3.out.size))
    clear b4
    rw [HLB.out]
    go_wp2_with fail
    refine (CompareT_any A A' c c' a b HL.out HL'.out _ (HR.out.below B4.out) (HR'.out.below B4.out)).mono ?_
    rintro e w5 ⟨rfl, b5⟩
    have B5 := Lib.hid (B4.out.trans (b5.mono B4.out.size))
    clear b5
    rw [HP.out]
    go_wp2_with fail
    refine (CompareT_any A' A c' c b a HL'.out HL.out _ (HR'.out.below B5.out) (HR.out.below B5.out)).mono ?_
    rintro e w6 ⟨rfl, b6⟩
    have B6 := Lib.hid (B5.out.trans (b6.mono B5.out.size))
    clear b6
    rw [HP2.out]
    go_wp2_with fail
    refine (CompareT_any A A' c c' a b HL.out HL'.out _ (HR.out.below B6.out) (HR'.out.below B6.out)).mono ?_
    rintro e w7 ⟨rfl, b7⟩
    have B7 := Lib.hid (B6.out.trans (b7.mono B6.out.size))
    clear b7
    rw [HP.out]
    go_wp2_with fail
    refine (CompareT_any A' A2 c' c2 b d HL'.out HL2.out _ (HR'.out.below B7.out) (HR2.out.below B7.out)).mono ?_
    rintro e w8 ⟨rfl, b8⟩
    have B8 := Lib.hid (B7.out.trans (b8.mono B7.out.size))
    clear b8
    have hq8 := HQ.out
    generalize cmpT b d = z8 at hq8 ⊢
    have h6 := H6.out
    go_wp2_with fail
    refine (Join_many A A' c c' a b h50 h50' H6.out _).mono ?_
    rintro e w9 ⟨rfl, b9⟩
    have B9 := Lib.hid (B8.out.trans (b9.mono B8.out.size))
    clear b9
    go_wp2_with fail
    refine (Is_eno 6 6 _ (by decide) true (by decide)).mono ?_
    rintro e wx ⟨rfl, rfl⟩
    go_wp2
    go_ret
    exact ⟨rfl, B9.out⟩

set_option maxRecDepth 100000 in
set_option maxHeartbeats 2000000 in
theorem orders_lt_gt_few (hal : AliveOk) (A A' A2 : Option Addr) (c c' c2 : Nat) (a b d : List V3) (hl : a.length ≤ maxLen) (hl' : b.length ≤ maxLen) (hl2 : d.length ≤ maxLen) (hn : A = none → c = 0) (hn' : A' = none → c' = 0) (hi : Inb a) (hi' : Inb b) (hi2 : Inb d)
    (hla : lessT a b = true) (hlb : lessT b a = false) (hp : cmpT a b = -1) (hp2 : cmpT b a = 1) (hq : 0 < cmpT b d) (h6 : ¬ (6 : Int) < (a.length : Int) + (b.length : Int))
    (w : World) (hT : Tab w) (hr : Row w A a) (hr' : Row w A' b) (hr2 : Row w A2 d) :
    Calls Tryd.prog 5 #[.slice A a.length c, .slice A' b.length c', .slice A2 d.length c2] w fun e w' => e = .returned (.bool true) ∧ Below w.heap.size w w' := by
  have HLA := Lib.hid hla
  have HLB := Lib.hid hlb
  have HP := Lib.hid hp
  have HP2 := Lib.hid hp2
  have HQ := Lib.hid hq
  have HN := Lib.hid hn
  have HN' := Lib.hid hn'
  have HI := Lib.hid hi
  have HI' := Lib.hid hi'
  have HI2 := Lib.hid hi2
  have HT := Lib.hid hT
  have HR := Lib.hid hr
  have HR' := Lib.hid hr'
  have HR2 := Lib.hid hr2
  have HL := Lib.hid hl
  have HL' := Lib.hid hl'
  have HL2 := Lib.hid hl2
  have HAL := Lib.hid hal
  have H6 := Lib.hid h6
  clear hla hlb hp hp2 hn hn' hi hi' hi2 hT hr hr' hr2 hl hl' hl2 hal h6 hq
  go_enter Tryd.func5, Tryd.ntmps5
  go_wp2_with fail
  refine (HAL.out w HT.out).mono ?_
  rintro e w1 ⟨rfl, b1⟩
  have BA := Lib.hid (b1.alloc b1.size (.cells #[.slice A a.length c, .slice A' b.length c', .slice A2 d.length c2] 23))
  clear b1
  go_wp2_with fail
  refine (Long3 A A' A2 c c' c2 a b d _ _ (by simp) (by go_simp) (by go_simp) (by go_simp) (HR.out.below BA.out) HI.out HL.out (HR'.out.below BA.out) HI'.out HL'.out (HR2.out.below BA.out) HI2.out HL2.out).mono ?_
  rintro e w2 ⟨r, rfl, hsm, b2⟩
  have B2 := Lib.hid (BA.out.trans (b2.mono BA.out.size))
  clear b2
  cases r with
  | true =>
    clear hsm
    go_wp2
    go_ret
    exact ⟨rfl, B2.out⟩
  | false =>
    obtain ⟨h50, _⟩ := hsm rfl (A, c, a) (by simp)
    obtain ⟨h50', _⟩ := hsm rfl (A', c', b) (by simp)
    have h50 : a.length ≤ 50 := h50
    have h50' : b.length ≤ 50 := h50'
    clear hsm
    go_wp2_with fail
    refine (LessT_any A A' c c' a b HL.out HL'.out _ (HR.out.below B2.out) (HR'.out.below B2.out)).mono ?_
    rintro e w3 ⟨rfl, b3⟩
    have B3 := Lib.hid (B2.out.trans (b3.mono B2.out.size))
    clear b3
    rw [HLA.out]
    go_wp2_with fail
    refine (LessT_any A' A c' c b a HL'.out HL.out _ (HR'.out.below B3.out) (HR.out.below B3.out)).mono ?_
    rintro e w4 ⟨rfl, b4⟩
    have B4 := Lib.hid (B3.out.trans (b4.mono B3.out.size))
    clear b4
    rw [HLB.out]
    go_wp2_with fail
    refine (CompareT_any A A' c c' a b HL.out HL'.out _ (HR.out.below B4.out) (HR'.out.below B4.out)).mono ?_
    rintro e w5 ⟨rfl, b5⟩
    have B5 := Lib.hid (B4.out.trans (b5.mono B4.out.size))
    clear b5
    rw [HP.out]
    go_wp2_with fail
    refine (CompareT_any A' A c' c b a HL'.out HL.out _ (HR'.out.below B5.out) (HR.out.below B5.out)).mono ?_
    rintro e w6 ⟨rfl, b6⟩
    have B6 := Lib.hid (B5.out.trans (b6.mono B5.out.size))
    clear b6
    rw [HP2.out]
    go_wp2_with fail
    refine (CompareT_any A A' c c' a b HL.out HL'.out _ (HR.out.below B6.out) (HR'.out.below B6.out)).mono ?_
    rintro e w7 ⟨rfl, b7⟩
    have B7 := Lib.hid (B6.out.trans (b7.mono B6.out.size))
    clear b7
    rw [HP.out]
    go_wp2_with fail
    refine (CompareT_any A' A2 c' c2 b d HL'.out HL2.out _ (HR'.out.below B7.out) (HR2.out.below B7.out)).mono ?_
    rintro e w8 ⟨rfl, b8⟩
    have B8 := Lib.hid (B7.out.trans (b8.mono B7.out.size))
    clear b8
    have hq8 := HQ.out
    generalize cmpT b d = z8 at hq8 ⊢
    have h6 := H6.out
    go_wp2_with fail
    refine (Join_ok A A' c c' a b (by have := H6.out; omega) HN.out HN'.out _ (HR.out.below B8.out) (HR'.out.below B8.out)).mono ?_
    rintro e wj ⟨AJ, cJ, rfl, rj, bj⟩
    have BJ := Lib.hid (B8.out.trans (bj.mono B8.out.size))
    have RJ := Lib.hid rj
    clear rj bj
    have HRJ := Lib.hid (HR.out.below BJ.out)
    have HRJ' := Lib.hid (HR'.out.below BJ.out)
    have hs1 : a.length ≤ 1000 := by omega
    go_wp2_with (at_builtin; refine wpList_wanted (by rfl) ?_; refine append_lit wj rfl (.tmp 77) (.tmp 78) rfl rfl A c a rfl HN.out HRJ.out hs1 ?_)
    intro A5 c5 w5 ho5 hn5 hb5
    have HO5 := Lib.hid ho5
    have HRB5 := Lib.hid (HRJ'.out.below hb5)
    have HRJ5 := Lib.hid (RJ.out.below hb5)
    have HS5 := Lib.hid hb5.size
    have B5 := Lib.hid (BJ.out.trans (hb5.mono BJ.out.size))
    have hs2 : a.length + b.length ≤ 1000 := by omega
    have HB5 := Lib.hid hb5
    clear ho5 hn5 hb5
    go_wp2_with (at_builtin; refine wpList_wanted (by rfl) ?_; refine appendT w5 rfl (.tmp 79) (.tmp 80) rfl wj.heap.size a _ rfl HO5.out A' c' b rfl HN'.out HRB5.out hs2 HS5.out ?_)
    intro A6 c6 w6 ho6 hn6 hb6
    rw [← List.length_append] at ho6 ⊢
    have RA := Lib.hid (Row.own ho6).2.2
    have BW := Lib.hid (HB5.out.trans hb6)
    have B6 := Lib.hid (BJ.out.trans (BW.out.mono BJ.out.size))
    have RJ6 := Lib.hid (RJ.out.below BW.out)
    have hm : (a ++ b).length ≤ maxLen := by rw [List.length_append]; unfold maxLen; omega
    have HM := Lib.hid hm
    clear ho6 hn6 hb6 hm
    generalize a ++ b = j at RA RJ6 HM ⊢
    go_wp2_with fail
    refine (Same_any AJ A6 cJ c6 j HM.out _ RJ6.out RA.out).mono ?_
    rintro e w7 ⟨rfl, b7⟩
    have B7 := Lib.hid (B6.out.trans (b7.mono B6.out.size))
    clear b7
    go_wp2
    go_ret
    exact ⟨rfl, B7.out⟩

set_option maxRecDepth 100000 in
set_option maxHeartbeats 2000000 in
theorem orders_lt_le_many (hal : AliveOk) (A A' A2 : Option Addr) (c c' c2 : Nat) (a b d : List V3) (hl : a.length ≤ maxLen) (hl' : b.length ≤ maxLen) (hl2 : d.length ≤ maxLen) (hn : A = none → c = 0) (hn' : A' = none → c' = 0) (hi : Inb a) (hi' : Inb b) (hi2 : Inb d)
    (hla : lessT a b = true) (hlb : lessT b a = false) (hp : cmpT a b = -1) (hp2 : cmpT b a = 1) (hq : cmpT b d ≤ 0) (hs : cmpT a d ≤ 0) (h6 : (6 : Int) < (a.length : Int) + (b.length : Int))
    (w : World) (hT : Tab w) (hr : Row w A a) (hr' : Row w A' b) (hr2 : Row w A2 d) :
    Calls Tryd.prog 5 #[.slice A a.length c, .slice A' b.length c', .slice A2 d.length c2] w fun e w' => e = .returned (.bool true) ∧ Below w.heap.size w w' := by
  have HLA := Lib.hid hla
  have HLB := Lib.hid hlb
  have HP := Lib.hid hp
  have HP2 := Lib.hid hp2
  have HQ := Lib.hid hq
  have HS := Lib.hid hs
  have HN := Lib.hid hn
  have HN' := Lib.hid hn'
  have HI := Lib.hid hi
  have HI' := Lib.hid hi'
  have HI2 := Lib.hid hi2
  have HT := Lib.hid hT
  have HR := Lib.hid hr
  have HR' := Lib.hid hr'
  have HR2 := Lib.hid hr2
  have HL := Lib.hid hl
  have HL' := Lib.hid hl'
  have HL2 := Lib.hid hl2
  have HAL := Lib.hid hal
  have H6 := Lib.hid h6
  clear hla hlb hp hp2 hn hn' hi hi' hi2 hT hr hr' hr2 hl hl' hl2 hal h6 hq hs
  go_enter Tryd.func5, Tryd.ntmps5
  go_wp2_with fail
  refine (HAL.out w HT.out).mono ?_
  rintro e w1 ⟨rfl, b1⟩
  have BA := Lib.hid (b1.alloc b1.size (.cells #[.slice A a.length c, .slice A' b.length c', .slice A2 d.length c2] 23))
  clear b1
  go_wp2_with fail
  refine (Long3 A A' A2 c c' c2 a b d _ _ (by simp) (by go_simp) (by go_simp) (by go_simp) (HR.out.below BA.out) HI.out HL.out (HR'.out.below BA.out) HI'.out HL'.out (HR2.out.below BA.out) HI2.out HL2.out).mono ?_
  rintro e w2 ⟨r, rfl, hsm, b2⟩
  have B2 := Lib.hid (BA.out.trans (b2.mono BA.out.size))
  clear b2
  cases r with
  | true =>
    clear hsm
    go_wp2
    go_ret
    exact ⟨rfl, B2.out⟩
  | false =>
    obtain ⟨h50, _⟩ := hsm rfl (A, c, a) (by simp)
    obtain ⟨h50', _⟩ := hsm rfl (A', c', b) (by simp)
    have h50 : a.length ≤ 50 := h50
    have h50' : b.length ≤ 50 := h50'
    clear hsm
    go_wp2_with fail
    refine (LessT_any A A' c c' a b HL.out HL'.out _ (HR.out.below B2.out) (HR'.out.below B2.out)).mono ?_
    rintro e w3 ⟨rfl, b3⟩
    have B3 := Lib.hid (B2.out.trans (b3.mono B2.out.size))
    clear b3
    rw [HLA.out]
    go_wp2_with fail
    refine (LessT_any A' A c' c b a HL'.out HL.out _ (HR'.out.below B3.out) (HR.out.below B3.out)).mono ?_
    rintro e w4 ⟨rfl, b4⟩
    have B4 := Lib.hid (B3.out.trans (b4.mono B3.out.size))
    clear b4
    rw [HLB.out]
    go_wp2_with fail
    refine (CompareT_any A A' c c' a b HL.out HL'.out _ (HR.out.below B4.out) (HR'.out.below B4.out)).mono ?_
    rintro e w5 ⟨rfl, b5⟩
    have B5 := Lib.hid (B4.out.trans (b5.mono B4.out.size))
    clear b5
    rw [HP.out]
    go_wp2_with fail
    refine (CompareT_any A' A c' c b a HL'.out HL.out _ (HR'.out.below B5.out) (HR.out.below B5.out)).mono ?_
    rintro e w6 ⟨rfl, b6⟩
    have B6 := Lib.hid (B5.out.trans (b6.mono B5.out.size))
    clear b6
    rw [HP2.out]
    go_wp2_with fail
    refine (CompareT_any A A' c c' a b HL.out HL'.out _ (HR.out.below B6.out) (HR'.out.below B6.out)).mono ?_
    rintro e w7 ⟨rfl, b7⟩
    have B7 := Lib.hid (B6.out.trans (b7.mono B6.out.size))
    clear b7
    rw [HP.out]
    go_wp2_with fail
    refine (CompareT_any A' A2 c' c2 b d HL'.out HL2.out _ (HR'.out.below B7.out) (HR2.out.below B7.out)).mono ?_
    rintro e w8 ⟨rfl, b8⟩
    have B8 := Lib.hid (B7.out.trans (b8.mono B7.out.size))
    clear b8
    have hq8 := HQ.out
    generalize cmpT b d = z8 at hq8 ⊢
    go_wp2_with fail
    refine (CompareT_any A A2 c c2 a d HL.out HL2.out _ (HR.out.below B8.out) (HR2.out.below B8.out)).mono ?_
    rintro e w9 ⟨rfl, b9⟩
    have B9 := Lib.hid (B8.out.trans (b9.mono B8.out.size))
    clear b9
    have hq9 := HS.out
    generalize cmpT a d = z9 at hq9 ⊢
    have h6 := H6.out
    go_wp2_with fail
    refine (Join_many A A' c c' a b h50 h50' H6.out _).mono ?_
    rintro e w10 ⟨rfl, b10⟩
    have B10 := Lib.hid (B9.out.trans (b10.mono B9.out.size))
    clear b10
    go_wp2_with fail
    refine (Is_eno 6 6 _ (by decide) true (by decide)).mono ?_
    rintro e wx ⟨rfl, rfl⟩
    go_wp2
    go_ret
    exact ⟨rfl, B10.out⟩

set_option maxRecDepth 100000 in
set_option maxHeartbeats 2000000 in
theorem orders_lt_le_few (hal : AliveOk) (A A' A2 : Option Addr) (c c' c2 : Nat) (a b d : List V3) (hl : a.length ≤ maxLen) (hl' : b.length ≤ maxLen) (hl2 : d.length ≤ maxLen) (hn : A = none → c = 0) (hn' : A' = none → c' = 0) (hi : Inb a) (hi' : Inb b) (hi2 : Inb d)
    (hla : lessT a b = true) (hlb : lessT b a = false) (hp : cmpT a b = -1) (hp2 : cmpT b a = 1) (hq : cmpT b d ≤ 0) (hs : cmpT a d ≤ 0) (h6 : ¬ (6 : Int) < (a.length : Int) + (b.length : Int))
    (w : World) (hT : Tab w) (hr : Row w A a) (hr' : Row w A' b) (hr2 : Row w A2 d) :
    Calls Tryd.prog 5 #[.slice A a.length c, .slice A' b.length c', .slice A2 d.length c2] w fun e w' => e = .returned (.bool true) ∧ Below w.heap.size w w' := by
  have HLA := Lib.hid hla
  have HLB := Lib.hid hlb
  have HP := Lib.hid hp
  have HP2 := Lib.hid hp2
  have HQ := Lib.hid hq
  have HS := Lib.hid hs
  have HN := Lib.hid hn
  have HN' := Lib.hid hn'
  have HI := Lib.hid hi
  have HI' := Lib.hid hi'
  have HI2 := Lib.hid hi2
  have HT := Lib.hid hT
  have HR := Lib.hid hr
  have HR' := Lib.hid hr'
  have HR2 := Lib.hid hr2
  have HL := Lib.hid hl
  have HL' := Lib.hid hl'
  have HL2 := Lib.hid hl2
  have HAL := Lib.hid hal
  have H6 := Lib.hid h6
  clear hla hlb hp hp2 hn hn' hi hi' hi2 hT hr hr' hr2 hl hl' hl2 hal h6 hq hs
  go_enter Tryd.func5, Tryd.ntmps5
  go_wp2_with fail
  refine (HAL.out w HT.out).mono ?_
  rintro e w1 ⟨rfl, b1⟩
  have BA := Lib.hid (b1.alloc b1.size (.cells #[.slice A a.length c, .slice A' b.length c', .slice A2 d.length c2] 23))
  clear b1
  go_wp2_with fail
  refine (Long3 A A' A2 c c' c2 a b d _ _ (by simp) (by go_simp) (by go_simp) (by go_simp) (HR.out.below BA.out) HI.out HL.out (HR'.out.below BA.out) HI'.out HL'.out (HR2.out.below BA.out) HI2.out HL2.out).mono ?_
  rintro e w2 ⟨r, rfl, hsm, b2⟩
  have B2 := Lib.hid (BA.out.trans (b2.mono BA.out.size))
  clear b2
  cases r with
  | true =>
    clear hsm
    go_wp2
    go_ret
    exact ⟨rfl, B2.out⟩
  | false =>
    obtain ⟨h50, _⟩ := hsm rfl (A, c, a) (by simp)
    obtain ⟨h50', _⟩ := hsm rfl (A', c', b) (by simp)
    have h50 : a.length ≤ 50 := h50
    have h50' : b.length ≤ 50 := h50'
    clear hsm
    go_wp2_with fail
    refine (LessT_any A A' c c' a b HL.out HL'.out _ (HR.out.below B2.out) (HR'.out.below B2.out)).mono ?_
    rintro e w3 ⟨rfl, b3⟩
    have B3 := Lib.hid (B2.out.trans (b3.mono B2.out.size))
    clear b3
    rw [HLA.out]
    go_wp2_with fail
    refine (LessT_any A' A c' c b a HL'.out HL.out _ (HR'.out.below B3.out) (HR.out.below B3.out)).mono ?_
    rintro e w4 ⟨rfl, b4⟩
    have B4 := Lib.hid (B3.out.trans (b4.mono B3.out.size))
    clear b4
    rw [HLB.out]
    go_wp2_with fail
    refine (CompareT_any A A' c c' a b HL.out HL'.out _ (HR.out.below B4.out) (HR'.out.below B4.out)).mono ?_
    rintro e w5 ⟨rfl, b5⟩
    have B5 := Lib.hid (B4.out.trans (b5.mono B4.out.size))
    clear b5
    rw [HP.out]
    go_wp2_with fail
    refine (CompareT_any A' A c' c b a HL'.out HL.out _ (HR'.out.below B5.out) (HR.out.below B5.out)).mono ?_
    rintro e w6 ⟨rfl, b6⟩
    have B6 := Lib.hid (B5.out.trans (b6.mono B5.out.size))
    clear b6
    rw [HP2.out]
    go_wp2_with fail
    refine (CompareT_any A A' c c' a b HL.out HL'.out _ (HR.out.below B6.out) (HR'.out.below B6.out)).mono ?_
    rintro e w7 ⟨rfl, b7⟩
    have B7 := Lib.hid (B6.out.trans (b7.mono B6.out.size))
    clear b7
    rw [HP.out]
    go_wp2_with fail
    refine (CompareT_any A' A2 c' c2 b d HL'.out HL2.out _ (HR'.out.below B7.out) (HR2.out.below B7.out)).mono ?_
    rintro e w8 ⟨rfl, b8⟩
    have B8 := Lib.hid (B7.out.trans (b8.mono B7.out.size))
    clear b8
    have hq8 := HQ.out
    generalize cmpT b d = z8 at hq8 ⊢
    go_wp2_with fail
    refine (CompareT_any A A2 c c2 a d HL.out HL2.out _ (HR.out.below B8.out) (HR2.out.below B8.out)).mono ?_
    rintro e w9 ⟨rfl, b9⟩
    have B9 := Lib.hid (B8.out.trans (b9.mono B8.out.size))
    clear b9
    have hq9 := HS.out
    generalize cmpT a d = z9 at hq9 ⊢
    have h6 := H6.out
    go_wp2_with fail
    refine (Join_ok A A' c c' a b (by have := H6.out; omega) HN.out HN'.out _ (HR.out.below B9.out) (HR'.out.below B9.out)).mono ?_
    rintro e wj ⟨AJ, cJ, rfl, rj, bj⟩
    have BJ := Lib.hid (B9.out.trans (bj.mono B9.out.size))
    have RJ := Lib.hid rj
    clear rj bj
    have HRJ := Lib.hid (HR.out.below BJ.out)
    have HRJ' := Lib.hid (HR'.out.below BJ.out)
    have hs1 : a.length ≤ 1000 := by omega
    go_wp2_with (at_builtin; refine wpList_wanted (by rfl) ?_; refine append_lit wj rfl (.tmp 77) (.tmp 78) rfl rfl A c a rfl HN.out HRJ.out hs1 ?_)
    intro A5 c5 w5 ho5 hn5 hb5
    have HO5 := Lib.hid ho5
    have HRB5 := Lib.hid (HRJ'.out.below hb5)
    have HRJ5 := Lib.hid (RJ.out.below hb5)
    have HS5 := Lib.hid hb5.size
    have B5 := Lib.hid (BJ.out.trans (hb5.mono BJ.out.size))
    have hs2 : a.length + b.length ≤ 1000 := by omega
    have HB5 := Lib.hid hb5
    clear ho5 hn5 hb5
    go_wp2_with (at_builtin; refine wpList_wanted (by rfl) ?_; refine appendT w5 rfl (.tmp 79) (.tmp 80) rfl wj.heap.size a _ rfl HO5.out A' c' b rfl HN'.out HRB5.out hs2 HS5.out ?_)
    intro A6 c6 w6 ho6 hn6 hb6
    rw [← List.length_append] at ho6 ⊢
    have RA := Lib.hid (Row.own ho6).2.2
    have BW := Lib.hid (HB5.out.trans hb6)
    have B6 := Lib.hid (BJ.out.trans (BW.out.mono BJ.out.size))
    have RJ6 := Lib.hid (RJ.out.below BW.out)
    have hm : (a ++ b).length ≤ maxLen := by rw [List.length_append]; unfold maxLen; omega
    have HM := Lib.hid hm
    clear ho6 hn6 hb6 hm
    generalize a ++ b = j at RA RJ6 HM ⊢
    go_wp2_with fail
    refine (Same_any AJ A6 cJ c6 j HM.out _ RJ6.out RA.out).mono ?_
    rintro e w7 ⟨rfl, b7⟩
    have B7 := Lib.hid (B6.out.trans (b7.mono B6.out.size))
    clear b7
    go_wp2
    go_ret
    exact ⟨rfl, B7.out⟩

set_option maxRecDepth 100000 in
set_option maxHeartbeats 2000000 in
theorem orders_eq_gt_many (hal : AliveOk) (A A' A2 : Option Addr) (c c' c2 : Nat) (a b d : List V3) (hl : a.length ≤ maxLen) (hl' : b.length ≤ maxLen) (hl2 : d.length ≤ maxLen) (hn : A = none → c = 0) (hn' : A' = none → c' = 0) (hi : Inb a) (hi' : Inb b) (hi2 : Inb d)
    (hla : lessT a b = false) (hlb : lessT b a = false) (hp : cmpT a b = 0) (hp2 : cmpT b a = 0) (hq : 0 < cmpT b d) (h6 : (6 : Int) < (a.length : Int) + (b.length : Int))
    (w : World) (hT : Tab w) (hr : Row w A a) (hr' : Row w A' b) (hr2 : Row w A2 d) :
    Calls Tryd.prog 5 #[.slice A a.length c, .slice A' b.length c', .slice A2 d.length c2] w fun e w' => e = .returned (.bool true) ∧ Below w.heap.size w w' := by
  have HLA := Lib.hid hla
  have HLB := Lib.hid hlb
  have HP := Lib.hid hp
  have HP2 := Lib.hid hp2
  have HQ := Lib.hid hq
  have HN := Lib.hid hn
  have HN' := Lib.hid hn'
  have HI := Lib.hid hi
  have HI' := Lib.hid hi'
  have HI2 := Lib.hid hi2
  have HT := Lib.hid hT
  have HR := Lib.hid hr
  have HR' := Lib.hid hr'
  have HR2 := Lib.hid hr2
  have HL := Lib.hid hl
  have HL' := Lib.hid hl'
  have HL2 := Lib.hid hl2
  have HAL := Lib.hid hal
  have H6 := Lib.hid h6
  clear hla hlb hp hp2 hn hn' hi hi' hi2 hT hr hr' hr2 hl hl' hl2 hal h6 hq
  go_enter Tryd.func5, Tryd.ntmps5
  go_wp2_with fail
  refine (HAL.out w HT.out).mono ?_
  rintro e w1 ⟨rfl, b1⟩
  have BA := Lib.hid (b1.alloc b1.size (.cells #[.slice A a.length c, .slice A' b.length c', .slice A2 d.length c2] 23))
  clear b1
  go_wp2_with fail
  refine (Long3 A A' A2 c c' c2 a b d _ _ (by simp) (by go_simp) (by go_simp) (by go_simp) (HR.out.below BA.out) HI.out HL.out (HR'.out.below BA.out) HI'.out HL'.out (HR2.out.below BA.out) HI2.out HL2.out).mono ?_
  rintro e w2 ⟨r, rfl, hsm, b2⟩
  have B2 := Lib.hid (BA.out.trans (b2.mono BA.out.size))
  clear b2
  cases r with
  | true =>
    clear hsm
    go_wp2
    go_ret
    exact ⟨rfl, B2.out⟩
  | false =>
    obtain ⟨h50, _⟩ := hsm rfl (A, c, a) (by simp)
    obtain ⟨h50', _⟩ := hsm rfl (A', c', b) (by simp)
    have h50 : a.length ≤ 50 := h50
    have h50' : b.length ≤ 50 := h50'
    clear hsm
    go_wp2_with fail
    refine (LessT_any A A' c c' a b HL.out HL'.out _ (HR.out.below B2.out) (HR'.out.below B2.out)).mono ?_
    rintro e w3 ⟨rfl, b3⟩
    have B3 := Lib.hid (B2.out.trans (b3.mono B2.out.size))
    clear b3
    rw [HLA.out]
    go_wp2_with fail
    refine (LessT_any A' A c' c b a HL'.out HL.out _ (HR'.out.below B3.out) (HR.out.below B3.out)).mono ?_
    rintro e w4 ⟨rfl, b4⟩
    have B4 := Lib.hid (B3.out.trans (b4.mono B3.out.size))
    clear b4
    rw [HLB.out]
    go_wp2_with fail
    refine (CompareT_any A A' c c' a b HL.out HL'.out _ (HR.out.below B4.out) (HR'.out.below B4.out)).mono ?_
    rintro e w5 ⟨rfl, b5⟩
    have B5 := Lib.hid (B4.out.trans (b5.mono B4.out.size))
    clear b5
    rw [HP.out]
    go_wp2_with fail
    refine (CompareT_any A' A c' c b a HL'.out HL.out _ (HR'.out.below B5.out) (HR.out.below B5.out)).mono ?_
    rintro e w6 ⟨rfl, b6⟩
    have B6 := Lib.hid (B5.out.trans (b6.mono B5.out.size))
    clear b6
    rw [HP2.out]
    go_wp2_with fail
    refine (CompareT_any A A' c c' a b HL.out HL'.out _ (HR.out.below B6.out) (HR'.out.below B6.out)).mono ?_
    rintro e w7 ⟨rfl, b7⟩
    have B7 := Lib.hid (B6.out.trans (b7.mono B6.out.size))
    clear b7
    rw [HP.out]
    go_wp2_with fail
    refine (CompareT_any A' A2 c' c2 b d HL'.out HL2.out _ (HR'.out.below B7.out) (HR2.out.below B7.out)).mono ?_
    rintro e w8 ⟨rfl, b8⟩
    have B8 := Lib.hid (B7.out.trans (b8.mono B7.out.size))
    clear b8
    have hq8 := HQ.out
    generalize cmpT b d = z8 at hq8 ⊢
    have h6 := H6.out
    go_wp2_with fail
    refine (Join_many A A' c c' a b h50 h50' H6.out _).mono ?_
    rintro e w9 ⟨rfl, b9⟩
    have B9 := Lib.hid (B8.out.trans (b9.mono B8.out.size))
    clear b9
    go_wp2_with fail
    refine (Is_eno 6 6 _ (by decide) true (by decide)).mono ?_
    rintro e wx ⟨rfl, rfl⟩
    go_wp2
    go_ret
    exact ⟨rfl, B9.out⟩

set_option maxRecDepth 100000 in
set_option maxHeartbeats 2000000 in
theorem orders_eq_gt_few (hal : AliveOk) (A A' A2 : Option Addr) (c c' c2 : Nat) (a b d : List V3) (hl : a.length ≤ maxLen) (hl' : b.length ≤ maxLen) (hl2 : d.length ≤ maxLen) (hn : A = none → c = 0) (hn' : A' = none → c' = 0) (hi : Inb a) (hi' : Inb b) (hi2 : Inb d)
    (hla : lessT a b = false) (hlb : lessT b a = false) (hp : cmpT a b = 0) (hp2 : cmpT b a = 0) (hq : 0 < cmpT b d) (h6 : ¬ (6 : Int) < (a.length : Int) + (b.length : Int))
    (w : World) (hT : Tab w) (hr : Row w A a) (hr' : Row w A' b) (hr2 : Row w A2 d) :
    Calls Tryd.prog 5 #[.slice A a.length c, .slice A' b.length c', .slice A2 d.length c2] w fun e w' => e = .returned (.bool true) ∧ Below w.heap.size w w' := by
  have HLA := Lib.hid hla
  have HLB := Lib.hid hlb
  have HP := Lib.hid hp
  have HP2 := Lib.hid hp2
  have HQ := Lib.hid hq
  have HN := Lib.hid hn
  have HN' := Lib.hid hn'
  have HI := Lib.hid hi
  have HI' := Lib.hid hi'
  have HI2 := Lib.hid hi2
  have HT := Lib.hid hT
  have HR := Lib.hid hr
  have HR' := Lib.hid hr'
  have HR2 := Lib.hid hr2
  have HL := Lib.hid hl
  have HL' := Lib.hid hl'
  have HL2 := Lib.hid hl2
  have HAL := Lib.hid hal
  have H6 := Lib.hid h6
  clear hla hlb hp hp2 hn hn' hi hi' hi2 hT hr hr' hr2 hl hl' hl2 hal h6 hq
  go_enter Tryd.func5, Tryd.ntmps5
  go_wp2_with fail
  refine (HAL.out w HT.out).mono ?_
  rintro e w1 ⟨rfl, b1⟩
  have BA := Lib.hid (b1.alloc b1.size (.cells #[.slice A a.length c, .slice A' b.length c', .slice A2 d.length c2] 23))
  clear b1
  go_wp2_with fail
  refine (Long3 A A' A2 c c' c2 a b d _ _ (by simp) (by go_simp) (by go_simp) (by go_simp) (HR.out.below BA.out) HI.out HL.out (HR'.out.below BA.out) HI'.out HL'.out (HR2.out.below BA.out) HI2.out HL2.out).mono ?_
  rintro e w2 ⟨r, rfl, hsm, b2⟩
  have B2 := Lib.hid (BA.out.trans (b2.mono BA.out.size))
  clear b2
  cases r with
  | true =>
    clear hsm
    go_wp2
    go_ret
    exact ⟨rfl, B2.out⟩
  | false =>
    obtain ⟨h50, _⟩ := hsm rfl (A, c, a) (by simp)
    obtain ⟨h50', _⟩ := hsm rfl (A', c', b) (by simp)
    have h50 : a.length ≤ 50 := h50
    have h50' : b.length ≤ 50 := h50'
    clear hsm
    go_wp2_with fail
    refine (LessT_any A A' c c' a b HL.out HL'.out _ (HR.out.below B2.out) (HR'.out.below B2.out)).mono ?_
    rintro e w3 ⟨rfl, b3⟩
    have B3 := Lib.hid (B2.out.trans (b3.mono B2.out.size))
    clear b3
    rw [HLA.out]
    go_wp2_with fail
    refine (LessT_any A' A c' c b a HL'.out HL.out _ (HR'.out.below B3.out) (HR.out.below B3.out)).mono ?_
    rintro e w4 ⟨rfl, b4⟩
    have B4 := Lib.hid (B3.out.trans (b4.mono B3.out.size))
    clear b4
    rw [HLB.out]
    go_wp2_with fail
    refine (CompareT_any A A' c c' a b HL.out HL'.out _ (HR.out.below B4.out) (HR'.out.below B4.out)).mono ?_
    rintro e w5 ⟨rfl, b5⟩
    have B5 := Lib.hid (B4.out.trans (b5.mono B4.out.size))
    clear b5
    rw [HP.out]
    go_wp2_with fail
    refine (CompareT_any A' A c' c b a HL'.out HL.out _ (HR'.out.below B5.out) (HR.out.below B5.out)).mono ?_
    rintro e w6 ⟨rfl, b6⟩
    have B6 := Lib.hid (B5.out.trans (b6.mono B5.out.size))
    clear b6
    rw [HP2.out]
    go_wp2_with fail
    refine (CompareT_any A A' c c' a b HL.out HL'.out _ (HR.out.below B6.out) (HR'.out.below B6.out)).mono ?_
    rintro e w7 ⟨rfl, b7⟩
    have B7 := Lib.hid (B6.out.trans (b7.mono B6.out.size))
    clear b7
    rw [HP.out]
    go_wp2_with fail
    refine (CompareT_any A' A2 c' c2 b d HL'.out HL2.out _ (HR'.out.below B7.out) (HR2.out.below B7.out)).mono ?_
    rintro e w8 ⟨rfl, b8⟩
    have B8 := Lib.hid (B7.out.trans (b8.mono B7.out.size))
    clear b8
    have hq8 := HQ.out
    generalize cmpT b d = z8 at hq8 ⊢
    have h6 := H6.out
    go_wp2_with fail
    refine (Join_ok A A' c c' a b (by have := H6.out; omega) HN.out HN'.out _ (HR.out.below B8.out) (HR'.out.below B8.out)).mono ?_
    rintro e wj ⟨AJ, cJ, rfl, rj, bj⟩
    have BJ := Lib.hid (B8.out.trans (bj.mono B8.out.size))
    have RJ := Lib.hid rj
    clear rj bj
    have HRJ := Lib.hid (HR.out.below BJ.out)
    have HRJ' := Lib.hid (HR'.out.below BJ.out)
    have hs1 : a.length ≤ 1000 := by omega
    go_wp2_with (at_builtin; refine wpList_wanted (by rfl) ?_; refine append_lit wj rfl (.tmp 77) (.tmp 78) rfl rfl A c a rfl HN.out HRJ.out hs1 ?_)
    intro A5 c5 w5 ho5 hn5 hb5
    have HO5 := Lib.hid ho5
    have HRB5 := Lib.hid (HRJ'.out.below hb5)
    have HRJ5 := Lib.hid (RJ.out.below hb5)
    have HS5 := Lib.hid hb5.size
    have B5 := Lib.hid (BJ.out.trans (hb5.mono BJ.out.size))
    have hs2 : a.length + b.length ≤ 1000 := by omega
    have HB5 := Lib.hid hb5
    clear ho5 hn5 hb5
    go_wp2_with (at_builtin; refine wpList_wanted (by rfl) ?_; refine appendT w5 rfl (.tmp 79) (.tmp 80) rfl wj.heap.size a _ rfl HO5.out A' c' b rfl HN'.out HRB5.out hs2 HS5.out ?_)
    intro A6 c6 w6 ho6 hn6 hb6
    rw [← List.length_append] at ho6 ⊢
    have RA := Lib.hid (Row.own ho6).2.2
    have BW := Lib.hid (HB5.out.trans hb6)
    have B6 := Lib.hid (BJ.out.trans (BW.out.mono BJ.out.size))
    have RJ6 := Lib.hid (RJ.out.below BW.out)
    have hm : (a ++ b).length ≤ maxLen := by rw [List.length_append]; unfold maxLen; omega
    have HM := Lib.hid hm
    clear ho6 hn6 hb6 hm
    generalize a ++ b = j at RA RJ6 HM ⊢
    go_wp2_with fail
    refine (Same_any AJ A6 cJ c6 j HM.out _ RJ6.out RA.out).mono ?_
    rintro e w7 ⟨rfl, b7⟩
    have B7 := Lib.hid (B6.out.trans (b7.mono B6.out.size))
    clear b7
    go_wp2
    go_ret
    exact ⟨rfl, B7.out⟩

set_option maxRecDepth 100000 in
set_option maxHeartbeats 2000000 in
theorem orders_eq_le_many (hal : AliveOk) (A A' A2 : Option Addr) (c c' c2 : Nat) (a b d : List V3) (hl : a.length ≤ maxLen) (hl' : b.length ≤ maxLen) (hl2 : d.length ≤ maxLen) (hn : A = none → c = 0) (hn' : A' = none → c' = 0) (hi : Inb a) (hi' : Inb b) (hi2 : Inb d)
    (hla : lessT a b = false) (hlb : lessT b a = false) (hp : cmpT a b = 0) (hp2 : cmpT b a = 0) (hq : cmpT b d ≤ 0) (hs : cmpT a d ≤ 0) (h6 : (6 : Int) < (a.length : Int) + (b.length : Int))
    (w : World) (hT : Tab w) (hr : Row w A a) (hr' : Row w A' b) (hr2 : Row w A2 d) :
    Calls Tryd.prog 5 #[.slice A a.length c, .slice A' b.length c', .slice A2 d.length c2] w fun e w' => e = .returned (.bool true) ∧ Below w.heap.size w w' := by
  have HLA := Lib.hid hla
  have HLB := Lib.hid hlb
  have HP := Lib.hid hp
  have HP2 := Lib.hid hp2
  have HQ := Lib.hid hq
  have HS := Lib.hid hs
  have HN := Lib.hid hn
  have HN' := Lib.hid hn'
  have HI := Lib.hid hi
  have HI' := Lib.hid hi'
  have HI2 := Lib.hid hi2
  have HT := Lib.hid hT
  have HR := Lib.hid hr
  have HR' := Lib.hid hr'
  have HR2 := Lib.hid hr2
  have HL := Lib.hid hl
  have HL' := Lib.hid hl'
  have HL2 := Lib.hid hl2
  have HAL := Lib.hid hal
  have H6 := Lib.hid h6
  clear hla hlb hp hp2 hn hn' hi hi' hi2 hT hr hr' hr2 hl hl' hl2 hal h6 hq hs
  go_enter Tryd.func5, Tryd.ntmps5
  go_wp2_with fail
  refine (HAL.out w HT.out).mono ?_
  rintro e w1 ⟨rfl, b1⟩
  have BA := Lib.hid (b1.alloc b1.size (.cells #[.slice A a.length c, .slice A' b.length c', .slice A2 d.length c2] 23))
  clear b1
  go_wp2_with fail
  refine (Long3 A A' A2 c c' c2 a b d _ _ (by simp) (by go_simp) (by go_simp) (by go_simp) (HR.out.below BA.out) HI.out HL.out (HR'.out.below BA.out) HI'.out HL'.out (HR2.out.below BA.out) HI2.out HL2.out).mono ?_
  rintro e w2 ⟨r, rfl, hsm, b2⟩
  have B2 := Lib.hid (BA.out.trans (b2.mono BA.out.size))
  clear b2
  cases r with
  | true =>
    clear hsm
    go_wp2
    go_ret
    exact ⟨rfl, B2.out⟩
  | false =>
    obtain ⟨h50, _⟩ := hsm rfl (A, c, a) (by simp)
    obtain ⟨h50', _⟩ := hsm rfl (A', c', b) (by simp)
    have h50 : a.length ≤ 50 := h50
    have h50' : b.length ≤ 50 := h50'
    clear hsm
    go_wp2_with fail
    refine (LessT_any A A' c c' a b HL.out HL'.out _ (HR.out.below B2.out) (HR'.out.below B2.out)).mono ?_
    rintro e w3 ⟨rfl, b3⟩
    have B3 := Lib.hid (B2.out.trans (b3.mono B2.out.size))
    clear b3
    rw [HLA.out]
    go_wp2_with fail
    refine (LessT_any A' A c' c b a HL'.out HL.out _ (HR'.out.below B3.out) (HR.out.below B3.out)).mono ?_
    rintro e w4 ⟨rfl, b4⟩
    have B4 := Lib.hid (B3.out.trans (b4.mono B3.out.size))
    clear b4
    rw [HLB.out]
    go_wp2_with fail
    refine (CompareT_any A A' c c' a b HL.out HL'.out _ (HR.out.below B4.out) (HR'.out.below B4.out)).mono ?_
    rintro e w5 ⟨rfl, b5⟩
    have B5 := Lib.hid (B4.out.trans (b5.mono B4.out.size))
    clear b5
    rw [HP.out]
    go_wp2_with fail
    refine (CompareT_any A' A c' c b a HL'.out HL.out _ (HR'.out.below B5.out) (HR.out.below B5.out)).mono ?_
    rintro e w6 ⟨rfl, b6⟩
    have B6 := Lib.hid (B5.out.trans (b6.mono B5.out.size))
    clear b6
    rw [HP2.out]
    go_wp2_with fail
    refine (CompareT_any A A' c c' a b HL.out HL'.out _ (HR.out.below B6.out) (HR'.out.below B6.out)).mono ?_
    rintro e w7 ⟨rfl, b7⟩
    have B7 := Lib.hid (B6.out.trans (b7.mono B6.out.size))
    clear b7
    rw [HP.out]
    go_wp2_with fail
    refine (CompareT_any A' A2 c' c2 b d HL'.out HL2.out _ (HR'.out.below B7.out) (HR2.out.below B7.out)).mono ?_
    rintro e w8 ⟨rfl, b8⟩
    have B8 := Lib.hid (B7.out.trans (b8.mono B7.out.size))
    clear b8
    have hq8 := HQ.out
    generalize cmpT b d = z8 at hq8 ⊢
    go_wp2_with fail
    refine (CompareT_any A A2 c c2 a d HL.out HL2.out _ (HR.out.below B8.out) (HR2.out.below B8.out)).mono ?_
    rintro e w9 ⟨rfl, b9⟩
    have B9 := Lib.hid (B8.out.trans (b9.mono B8.out.size))
    clear b9
    have hq9 := HS.out
    generalize cmpT a d = z9 at hq9 ⊢
    have h6 := H6.out
    go_wp2_with fail
    refine (Join_many A A' c c' a b h50 h50' H6.out _).mono ?_
    rintro e w10 ⟨rfl, b10⟩
    have B10 := Lib.hid (B9.out.trans (b10.mono B9.out.size))
    clear b10
    go_wp2_with fail
    refine (Is_eno 6 6 _ (by decide) true (by decide)).mono ?_
    rintro e wx ⟨rfl, rfl⟩
    go_wp2
    go_ret
    exact ⟨rfl, B10.out⟩

set_option maxRecDepth 100000 in
set_option maxHeartbeats 2000000 in
theorem orders_eq_le_few (hal : AliveOk) (A A' A2 : Option Addr) (c c' c2 : Nat) (a b d : List V3) (hl : a.length ≤ maxLen) (hl' : b.length ≤ maxLen) (hl2 : d.length ≤ maxLen) (hn : A = none → c = 0) (hn' : A' = none → c' = 0) (hi : Inb a) (hi' : Inb b) (hi2 : Inb d)
    (hla : lessT a b = false) (hlb : lessT b a = false) (hp : cmpT a b = 0) (hp2 : cmpT b a = 0) (hq : cmpT b d ≤ 0) (hs : cmpT a d ≤ 0) (h6 : ¬ (6 : Int) < (a.length : Int) + (b.length : Int))
    (w : World) (hT : Tab w) (hr : Row w A a) (hr' : Row w A' b) (hr2 : Row w A2 d) :
    Calls Tryd.prog 5 #[.slice A a.length c, .slice A' b.length c', .slice A2 d.length c2] w fun e w' => e = .returned (.bool true) ∧ Below w.heap.size w w' := by
  have HLA := Lib.hid hla
  have HLB := Lib.hid hlb
  have HP := Lib.hid hp
  have HP2 := Lib.hid hp2
  have HQ := Lib.hid hq
  have HS := Lib.hid hs
  have HN := Lib.hid hn
  have HN' := Lib.hid hn'
  have HI := Lib.hid hi
  have HI' := Lib.hid hi'
  have HI2 := Lib.hid hi2
  have HT := Lib.hid hT
  have HR := Lib.hid hr
  have HR' := Lib.hid hr'
  have HR2 := Lib.hid hr2
  have HL := Lib.hid hl
  have HL' := Lib.hid hl'
  have HL2 := Lib.hid hl2
  have HAL := Lib.hid hal
  have H6 := Lib.hid h6
  clear hla hlb hp hp2 hn hn' hi hi' hi2 hT hr hr' hr2 hl hl' hl2 hal h6 hq hs
  go_enter Tryd.func5, Tryd.ntmps5
  go_wp2_with fail
  refine (HAL.out w HT.out).mono ?_
  rintro e w1 ⟨rfl, b1⟩
  have BA := Lib.hid (b1.alloc b1.size (.cells #[.slice A a.length c, .slice A' b.length c', .slice A2 d.length c2] 23))
  clear b1
  go_wp2_with fail
  refine (Long3 A A' A2 c c' c2 a b d _ _ (by simp) (by go_simp) (by go_simp) (by go_simp) (HR.out.below BA.out) HI.out HL.out (HR'.out.below BA.out) HI'.out HL'.out (HR2.out.below BA.out) HI2.out HL2.out).mono ?_
  rintro e w2 ⟨r, rfl, hsm, b2⟩
  have B2 := Lib.hid (BA.out.trans (b2.mono BA.out.size))
  clear b2
  cases r with
  | true =>
    clear hsm
    go_wp2
    go_ret
    exact ⟨rfl, B2.out⟩
  | false =>
    obtain ⟨h50, _⟩ := hsm rfl (A, c, a) (by simp)
    obtain ⟨h50', _⟩ := hsm rfl (A', c', b) (by simp)
    have h50 : a.length ≤ 50 := h50
    have h50' : b.length ≤ 50 := h50'
    clear hsm
    go_wp2_with fail
    refine (LessT_any A A' c c' a b HL.out HL'.out _ (HR.out.below B2.out) (HR'.out.below B2.out)).mono ?_
    rintro e w3 ⟨rfl, b3⟩
    have B3 := Lib.hid (B2.out.trans (b3.mono B2.out.size))
    clear b3
    rw [HLA.out]
    go_wp2_with fail
    refine (LessT_any A' A c' c b a HL'.out HL.out _ (HR'.out.below B3.out) (HR.out.below B3.out)).mono ?_
    rintro e w4 ⟨rfl, b4⟩
    have B4 := Lib.hid (B3.out.trans (b4.mono B3.out.size))
    clear b4
    rw [HLB.out]
    go_wp2_with fail
    refine (CompareT_any A A' c c' a b HL.out HL'.out _ (HR.out.below B4.out) (HR'.out.below B4.out)).mono ?_
    rintro e w5 ⟨rfl, b5⟩
    have B5 := Lib.hid (B4.out.trans (b5.mono B4.out.size))
    clear b5
    rw [HP.out]
    go_wp2_with fail
    refine (CompareT_any A' A c' c b a HL'.out HL.out _ (HR'.out.below B5.out) (HR.out.below B5.out)).mono ?_
    rintro e w6 ⟨rfl, b6⟩
    have B6 := Lib.hid (B5.out.trans (b6.mono B5.out.size))
    clear b6
    rw [HP2.out]
    go_wp2_with fail
    refine (CompareT_any A A' c c' a b HL.out HL'.out _ (HR.out.below B6.out) (HR'.out.below B6.out)).mono ?_
    rintro e w7 ⟨rfl, b7⟩
    have B7 := Lib.hid (B6.out.trans (b7.mono B6.out.size))
    clear b7
    rw [HP.out]
    go_wp2_with fail
    refine (CompareT_any A' A2 c' c2 b d HL'.out HL2.out _ (HR'.out.below B7.out) (HR2.out.below B7.out)).mono ?_
    rintro e w8 ⟨rfl, b8⟩
    have B8 := Lib.hid (B7.out.trans (b8.mono B7.out.size))
    clear b8
    have hq8 := HQ.out
    generalize cmpT b d = z8 at hq8 ⊢
    go_wp2_with fail
    refine (CompareT_any A A2 c c2 a d HL.out HL2.out _ (HR.out.below B8.out) (HR2.out.below B8.out)).mono ?_
    rintro e w9 ⟨rfl, b9⟩
    have B9 := Lib.hid (B8.out.trans (b9.mono B8.out.size))
    clear b9
    have hq9 := HS.out
    generalize cmpT a d = z9 at hq9 ⊢
    have h6 := H6.out
    go_wp2_with fail
    refine (Join_ok A A' c c' a b (by have := H6.out; omega) HN.out HN'.out _ (HR.out.below B9.out) (HR'.out.below B9.out)).mono ?_
    rintro e wj ⟨AJ, cJ, rfl, rj, bj⟩
    have BJ := Lib.hid (B9.out.trans (bj.mono B9.out.size))
    have RJ := Lib.hid rj
    clear rj bj
    have HRJ := Lib.hid (HR.out.below BJ.out)
    have HRJ' := Lib.hid (HR'.out.below BJ.out)
    have hs1 : a.length ≤ 1000 := by omega
    go_wp2_with (at_builtin; refine wpList_wanted (by rfl) ?_; refine append_lit wj rfl (.tmp 77) (.tmp 78) rfl rfl A c a rfl HN.out HRJ.out hs1 ?_)
    intro A5 c5 w5 ho5 hn5 hb5
    have HO5 := Lib.hid ho5
    have HRB5 := Lib.hid (HRJ'.out.below hb5)
    have HRJ5 := Lib.hid (RJ.out.below hb5)
    have HS5 := Lib.hid hb5.size
    have B5 := Lib.hid (BJ.out.trans (hb5.mono BJ.out.size))
    have hs2 : a.length + b.length ≤ 1000 := by omega
    have HB5 := Lib.hid hb5
    clear ho5 hn5 hb5
    go_wp2_with (at_builtin; refine wpList_wanted (by rfl) ?_; refine appendT w5 rfl (.tmp 79) (.tmp 80) rfl wj.heap.size a _ rfl HO5.out A' c' b rfl HN'.out HRB5.out hs2 HS5.out ?_)
    intro A6 c6 w6 ho6 hn6 hb6
    rw [← List.length_append] at ho6 ⊢
    have RA := Lib.hid (Row.own ho6).2.2
    have BW := Lib.hid (HB5.out.trans hb6)
    have B6 := Lib.hid (BJ.out.trans (BW.out.mono BJ.out.size))
    have RJ6 := Lib.hid (RJ.out.below BW.out)
    have hm : (a ++ b).length ≤ maxLen := by rw [List.length_append]; unfold maxLen; omega
    have HM := Lib.hid hm
    clear ho6 hn6 hb6 hm
    generalize a ++ b = j at RA RJ6 HM ⊢
    go_wp2_with fail
    refine (Same_any AJ A6 cJ c6 j HM.out _ RJ6.out RA.out).mono ?_
    rintro e w7 ⟨rfl, b7⟩
    have B7 := Lib.hid (B6.out.trans (b7.mono B6.out.size))
    clear b7
    go_wp2
    go_ret
    exact ⟨rfl, B7.out⟩

set_option maxRecDepth 100000 in
set_option maxHeartbeats 2000000 in
theorem orders_gt_many (hal : AliveOk) (A A' A2 : Option Addr) (c c' c2 : Nat) (a b d : List V3) (hl : a.length ≤ maxLen) (hl' : b.length ≤ maxLen) (hl2 : d.length ≤ maxLen) (hn : A = none → c = 0) (hn' : A' = none → c' = 0) (hi : Inb a) (hi' : Inb b) (hi2 : Inb d)
    (hla : lessT a b = false) (hlb : lessT b a = true) (hp : cmpT a b = 1) (hp2 : cmpT b a = -1) (h6 : (6 : Int) < (a.length : Int) + (b.length : Int))
    (w : World) (hT : Tab w) (hr : Row w A a) (hr' : Row w A' b) (hr2 : Row w A2 d) :
    Calls Tryd.prog 5 #[.slice A a.length c, .slice A' b.length c', .slice A2 d.length c2] w fun e w' => e = .returned (.bool true) ∧ Below w.heap.size w w' := by
  have HLA := Lib.hid hla
  have HLB := Lib.hid hlb
  have HP := Lib.hid hp
  have HP2 := Lib.hid hp2
  have HN := Lib.hid hn
  have HN' := Lib.hid hn'
  have HI := Lib.hid hi
  have HI' := Lib.hid hi'
  have HI2 := Lib.hid hi2
  have HT := Lib.hid hT
  have HR := Lib.hid hr
  have HR' := Lib.hid hr'
  have HR2 := Lib.hid hr2
  have HL := Lib.hid hl
  have HL' := Lib.hid hl'
  have HL2 := Lib.hid hl2
  have HAL := Lib.hid hal
  have H6 := Lib.hid h6
  clear hla hlb hp hp2 hn hn' hi hi' hi2 hT hr hr' hr2 hl hl' hl2 hal h6
  go_enter Tryd.func5, Tryd.ntmps5
  go_wp2_with fail
  refine (HAL.out w HT.out).mono ?_
  rintro e w1 ⟨rfl, b1⟩
  have BA := Lib.hid (b1.alloc b1.size (.cells #[.slice A a.length c, .slice A' b.length c', .slice A2 d.length c2] 23))
  clear b1
  go_wp2_with fail
  refine (Long3 A A' A2 c c' c2 a b d _ _ (by simp) (by go_simp) (by go_simp) (by go_simp) (HR.out.below BA.out) HI.out HL.out (HR'.out.below BA.out) HI'.out HL'.out (HR2.out.below BA.out) HI2.out HL2.out).mono ?_
  rintro e w2 ⟨r, rfl, hsm, b2⟩
  have B2 := Lib.hid (BA.out.trans (b2.mono BA.out.size))
  clear b2
  cases r with
  | true =>
    clear hsm
    go_wp2
    go_ret
    exact ⟨rfl, B2.out⟩
  | false =>
    obtain ⟨h50, _⟩ := hsm rfl (A, c, a) (by simp)
    obtain ⟨h50', _⟩ := hsm rfl (A', c', b) (by simp)
    have h50 : a.length ≤ 50 := h50
    have h50' : b.length ≤ 50 := h50'
    clear hsm
    go_wp2_with fail
    refine (LessT_any A A' c c' a b HL.out HL'.out _ (HR.out.below B2.out) (HR'.out.below B2.out)).mono ?_
    rintro e w3 ⟨rfl, b3⟩
    have B3 := Lib.hid (B2.out.trans (b3.mono B2.out.size))
    clear b3
    rw [HLA.out]
    go_wp2_with fail
    refine (LessT_any A' A c' c b a HL'.out HL.out _ (HR'.out.below B3.out) (HR.out.below B3.out)).mono ?_
    rintro e w4 ⟨rfl, b4⟩
    have B4 := Lib.hid (B3.out.trans (b4.mono B3.out.size))
    clear b4
    rw [HLB.out]
    go_wp2_with fail
    refine (CompareT_any A A' c c' a b HL.out HL'.out _ (HR.out.below B4.out) (HR'.out.below B4.out)).mono ?_
    rintro e w5 ⟨rfl, b5⟩
    have B5 := Lib.hid (B4.out.trans (b5.mono B4.out.size))
    clear b5
    rw [HP.out]
    go_wp2_with fail
    refine (CompareT_any A' A c' c b a HL'.out HL.out _ (HR'.out.below B5.out) (HR.out.below B5.out)).mono ?_
    rintro e w6 ⟨rfl, b6⟩
    have B6 := Lib.hid (B5.out.trans (b6.mono B5.out.size))
    clear b6
    rw [HP2.out]
    go_wp2_with fail
    refine (CompareT_any A A' c c' a b HL.out HL'.out _ (HR.out.below B6.out) (HR'.out.below B6.out)).mono ?_
    rintro e w7 ⟨rfl, b7⟩
    have B7 := Lib.hid (B6.out.trans (b7.mono B6.out.size))
    clear b7
    rw [HP.out]
    have h6 := H6.out
    go_wp2_with fail
    refine (Join_many A A' c c' a b h50 h50' H6.out _).mono ?_
    rintro e w8 ⟨rfl, b8⟩
    have B8 := Lib.hid (B7.out.trans (b8.mono B7.out.size))
    clear b8
    go_wp2_with fail
    refine (Is_eno 6 6 _ (by decide) true (by decide)).mono ?_
    rintro e wx ⟨rfl, rfl⟩
    go_wp2
    go_ret
    exact ⟨rfl, B8.out⟩

set_option maxRecDepth 100000 in
set_option maxHeartbeats 2000000 in
theorem orders_gt_few (hal : AliveOk) (A A' A2 : Option Addr) (c c' c2 : Nat) (a b d : List V3) (hl : a.length ≤ maxLen) (hl' : b.length ≤ maxLen) (hl2 : d.length ≤ maxLen) (hn : A = none → c = 0) (hn' : A' = none → c' = 0) (hi : Inb a) (hi' : Inb b) (hi2 : Inb d)
    (hla : lessT a b = false) (hlb : lessT b a = true) (hp : cmpT a b = 1) (hp2 : cmpT b a = -1) (h6 : ¬ (6 : Int) < (a.length : Int) + (b.length : Int))
    (w : World) (hT : Tab w) (hr : Row w A a) (hr' : Row w A' b) (hr2 : Row w A2 d) :
    Calls Tryd.prog 5 #[.slice A a.length c, .slice A' b.length c', .slice A2 d.length c2] w fun e w' => e = .returned (.bool true) ∧ Below w.heap.size w w' := by
  have HLA := Lib.hid hla
  have HLB := Lib.hid hlb
  have HP := Lib.hid hp
  have HP2 := Lib.hid hp2
  have HN := Lib.hid hn
  have HN' := Lib.hid hn'
  have HI := Lib.hid hi
  have HI' := Lib.hid hi'
  have HI2 := Lib.hid hi2
  have HT := Lib.hid hT
  have HR := Lib.hid hr
  have HR' := Lib.hid hr'
  have HR2 := Lib.hid hr2
  have HL := Lib.hid hl
  have HL' := Lib.hid hl'
  have HL2 := Lib.hid hl2
  have HAL := Lib.hid hal
  have H6 := Lib.hid h6
  clear hla hlb hp hp2 hn hn' hi hi' hi2 hT hr hr' hr2 hl hl' hl2 hal h6
  go_enter Tryd.func5, Tryd.ntmps5
  go_wp2_with fail
  refine (HAL.out w HT.out).mono ?_
  rintro e w1 ⟨rfl, b1⟩
  have BA := Lib.hid (b1.alloc b1.size (.cells #[.slice A a.length c, .slice A' b.length c', .slice A2 d.length c2] 23))
  clear b1
  go_wp2_with fail
  refine (Long3 A A' A2 c c' c2 a b d _ _ (by simp) (by go_simp) (by go_simp) (by go_simp) (HR.out.below BA.out) HI.out HL.out (HR'.out.below BA.out) HI'.out HL'.out (HR2.out.below BA.out) HI2.out HL2.out).mono ?_
  rintro e w2 ⟨r, rfl, hsm, b2⟩
  have B2 := Lib.hid (BA.out.trans (b2.mono BA.out.size))
  clear b2
  cases r with
  | true =>
    clear hsm
    go_wp2
    go_ret
    exact ⟨rfl, B2.out⟩
  | false =>
    obtain ⟨h50, _⟩ := hsm rfl (A, c, a) (by simp)
    obtain ⟨h50', _⟩ := hsm rfl (A', c', b) (by simp)
    have h50 : a.length ≤ 50 := h50
    have h50' : b.length ≤ 50 := h50'
    clear hsm
    go_wp2_with fail
    refine (LessT_any A A' c c' a b HL.out HL'.out _ (HR.out.below B2.out) (HR'.out.below B2.out)).mono ?_
    rintro e w3 ⟨rfl, b3⟩
    have B3 := Lib.hid (B2.out.trans (b3.mono B2.out.size))
    clear b3
    rw [HLA.out]
    go_wp2_with fail
    refine (LessT_any A' A c' c b a HL'.out HL.out _ (HR'.out.below B3.out) (HR.out.below B3.out)).mono ?_
    rintro e w4 ⟨rfl, b4⟩
    have B4 := Lib.hid (B3.out.trans (b4.mono B3.out.size))
    clear b4
    rw [HLB.out]
    go_wp2_with fail
    refine (CompareT_any A A' c c' a b HL.out HL'.out _ (HR.out.below B4.out) (HR'.out.below B4.out)).mono ?_
    rintro e w5 ⟨rfl, b5⟩
    have B5 := Lib.hid (B4.out.trans (b5.mono B4.out.size))
    clear b5
    rw [HP.out]
    go_wp2_with fail
    refine (CompareT_any A' A c' c b a HL'.out HL.out _ (HR'.out.below B5.out) (HR.out.below B5.out)).mono ?_
    rintro e w6 ⟨rfl, b6⟩
    have B6 := Lib.hid (B5.out.trans (b6.mono B5.out.size))
    clear b6
    rw [HP2.out]
    go_wp2_with fail
    refine (CompareT_any A A' c c' a b HL.out HL'.out _ (HR.out.below B6.out) (HR'.out.below B6.out)).mono ?_
    rintro e w7 ⟨rfl, b7⟩
    have B7 := Lib.hid (B6.out.trans (b7.mono B6.out.size))
    clear b7
    rw [HP.out]
    have h6 := H6.out
    go_wp2_with fail
    refine (Join_ok A A' c c' a b (by have := H6.out; omega) HN.out HN'.out _ (HR.out.below B7.out) (HR'.out.below B7.out)).mono ?_
    rintro e wj ⟨AJ, cJ, rfl, rj, bj⟩
    have BJ := Lib.hid (B7.out.trans (bj.mono B7.out.size))
    have RJ := Lib.hid rj
    clear rj bj
    have HRJ := Lib.hid (HR.out.below BJ.out)
    have HRJ' := Lib.hid (HR'.out.below BJ.out)
    have hs1 : a.length ≤ 1000 := by omega
    go_wp2_with (at_builtin; refine wpList_wanted (by rfl) ?_; refine append_lit wj rfl (.tmp 77) (.tmp 78) rfl rfl A c a rfl HN.out HRJ.out hs1 ?_)
    intro A5 c5 w5 ho5 hn5 hb5
    have HO5 := Lib.hid ho5
    have HRB5 := Lib.hid (HRJ'.out.below hb5)
    have HRJ5 := Lib.hid (RJ.out.below hb5)
    have HS5 := Lib.hid hb5.size
    have B5 := Lib.hid (BJ.out.trans (hb5.mono BJ.out.size))
    have hs2 : a.length + b.length ≤ 1000 := by omega
    have HB5 := Lib.hid hb5
    clear ho5 hn5 hb5
    go_wp2_with (at_builtin; refine wpList_wanted (by rfl) ?_; refine appendT w5 rfl (.tmp 79) (.tmp 80) rfl wj.heap.size a _ rfl HO5.out A' c' b rfl HN'.out HRB5.out hs2 HS5.out ?_)
    intro A6 c6 w6 ho6 hn6 hb6
    rw [← List.length_append] at ho6 ⊢
    have RA := Lib.hid (Row.own ho6).2.2
    have BW := Lib.hid (HB5.out.trans hb6)
    have B6 := Lib.hid (BJ.out.trans (BW.out.mono BJ.out.size))
    have RJ6 := Lib.hid (RJ.out.below BW.out)
    have hm : (a ++ b).length ≤ maxLen := by rw [List.length_append]; unfold maxLen; omega
    have HM := Lib.hid hm
    clear ho6 hn6 hb6 hm
    generalize a ++ b = j at RA RJ6 HM ⊢
    go_wp2_with fail
    refine (Same_any AJ A6 cJ c6 j HM.out _ RJ6.out RA.out).mono ?_
    rintro e w7 ⟨rfl, b7⟩
    have B7 := Lib.hid (B6.out.trans (b7.mono B6.out.size))
    clear b7
    go_wp2
    go_ret
    exact ⟨rfl, B7.out⟩
end Go.Proofs.YteamogdbhoajkaaDoor
