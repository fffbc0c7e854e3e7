/- LexLists: a text's tokens are the document's. Conditions: lex's two tables and strconv's variables as they are laid. -/
import Derived.Test.YtgjcaadgkeebpaaDoorLexPa
import Derived.StillTailTactics
namespace Go.Proofs.YtgjcaadgkeebpaaDoor
open Go.RowKit Go.Deep Go.Shelf

def errV (n : Int) : Value := if n = 0 then .nilIface else eno n
theorem err_eno {n : Int} (h : n ≠ 0) : errV n = eno n := by simp [errV, h]
theorem err0 : errV 0 = .nilIface := by simp [errV]
set_option maxRecDepth 100000 in
set_option maxHeartbeats 400000 in
theorem Num_any (n : Int) (w : World) : Calls Tryd.prog 10 #[errV n] w fun e w' => e = .returned (.int .i64 n) ∧ w = w' := by
  by_cases h0 : n = 0
  · subst h0
    rw [err0]
    have k1 : ∀ w, (binOp .eql 25 .nilIface .nilIface).run Tryd.prog w = .ok (.bool true) w := fun w => by kernel_rfl
    go_enter Tryd.func10, Tryd.ntmps10
    go_wp2
    go_ret
    exact ⟨rfl, rfl⟩
  · have e : errV n = eno n := by simp [errV, h0]
    rw [e]
    have hb : (n != 0) = true := by simpa using h0
    have k1 : ∀ w, (binOp .eql 25 (eno n) .nilIface).run Tryd.prog w = .ok (.bool false) w := fun w => by kernel_rfl
    have k2 := fun w => assert_eno n w
    clear h0 e
    go_enter Tryd.func10, Tryd.ntmps10
    go_wp2
    go_ret
    exact ⟨rfl, rfl⟩

/-- the tokens, the error's number, the place. -/
def ansOf (s : ByteArray) : List Tk × Int × Int :=
  if 4000 < s.size then ([], 3, 4000) else
  match (lexA kindW 0 s.data.toList).2 with
  | some p => ([], 2, (p : Int))
  | none => ((lexA kindW 0 s.data.toList).1, 0, 0)
def LiU (w : World) (a : List Tk × Int × Int) (e : Ending) (w' : World) : Prop := ∃ A c, e = .returned (.tuple #[.slice A a.1.length c, .int .i64 a.2.2, errV a.2.1]) ∧ TRow w' A a.1 ∧ Below w.heap.size w w'
def RaU (w : World) (a : List Tk × Int × Int) (e : Ending) (w' : World) : Prop := ∃ A c, e = .returned (.tuple #[.slice A a.1.length c, .int .i64 a.2.2, .int .i64 a.2.1]) ∧ TRow w' A a.1 ∧ Below w.heap.size w w'
theorem row_nil (w : World) (A : Option Addr) : TRow w A [] := fun h => absurd h (by simp)
theorem ListU_any (s : ByteArray) (w : World) (hs : s.size ≤ maxLen) (hL : Lays w) :
    Calls Tryd.prog 8 #[.string s] w fun e w' => LiU w (ansOf s) e w' :=
  (List_any s w hs hL).mono fun e w' h => by
    unfold LiPost at h
    unfold LiU ansOf
    split at h
    · rename_i hl
      rw [if_pos hl]
      obtain ⟨rfl, hb⟩ := h
      exact ⟨none, 0, rfl, row_nil _ _, hb⟩
    · rename_i hl
      rw [if_neg hl]
      split at h
      · rename_i p hp
        obtain ⟨rfl, hb⟩ := h
        rw [hp]
        exact ⟨none, 0, rfl, row_nil _ _, hb⟩
      · rename_i hp
        obtain ⟨A, c, rfl, _, hr, hb⟩ := h
        rw [hp]
        exact ⟨A, c, rfl, hr, hb⟩

set_option maxRecDepth 100000 in
set_option maxHeartbeats 400000 in
theorem refAll_any (s : ByteArray) (w : World) (hs : s.size ≤ maxLen) :
    Calls Tryd.prog 9 #[.string s] w fun e w' => RaU w (ansOf s) e w' := by
  unfold maxLen at hs
  by_cases hl : 4000 < s.size
  · have HQ : Hid (RaU w (ansOf s) (.returned (.tuple #[.slice none 0 0, .int .i64 4000, .int .i64 3])) w) := by
      show RaU _ _ _ _
      unfold RaU ansOf
      rw [if_pos hl]
      exact ⟨none, 0, rfl, row_nil _ _, Below.refl _ _⟩
    have hli : (4000 : Int) < (s.size : Int) := by omega
    clear hl
    go_enter Tryd.func9, Tryd.ntmps9
    go_wp2
    go_ret3
    exact HQ.out
  · have HLi := Lib.hid (refList_any s w (by omega))
    have HA : Hid (ansOf s = match (lexA kindW 0 s.data.toList).2 with | some p => ([], 2, (p : Int)) | none => ((lexA kindW 0 s.data.toList).1, 0, 0)) := by
      show _ = _
      unfold ansOf
      rw [if_neg hl]
    have hli : (s.size : Int) ≤ 4000 := by omega
    generalize lexA kindW 0 s.data.toList = R at HLi HA
    generalize ansOf s = a at HA ⊢
    clear hl
    go_enter Tryd.func9, Tryd.ntmps9
    go_wp2_with fail
    refine HLi.out.mono ?_
    rintro e w1 ⟨A, c, rfl, hr, hb⟩
    obtain ⟨L, o⟩ := R
    cases o with
    | some p =>
      have HQ : Hid (RaU w a (.returned (.tuple #[.slice none 0 0, .int .i64 (p : Int), .int .i64 2])) w1) := by
        show RaU _ _ _ _
        rw [HA.out]
        exact ⟨none, 0, rfl, row_nil _ _, hb⟩
      clear hr hb HLi
      simp only
      go_wp2
      go_ret3
      exact HQ.out
    | none =>
      have HQ : Hid (RaU w a (.returned (.tuple #[.slice A L.length c, .int .i64 0, .int .i64 0])) w1) := by
        show RaU _ _ _ _
        rw [HA.out]
        exact ⟨A, c, rfl, hr, hb⟩
      clear hr hb HLi
      simp only
      go_wp2
      go_ret3
      exact HQ.out

set_option maxRecDepth 100000 in
set_option maxHeartbeats 400000 in
theorem is_same (q a : Int) (T : ByteArray) (w : World) :
    Calls Tryd.prog 11 #[.agg #[.int .i64 q, .string T, .int .i64 a], .agg #[.int .i64 q, .string T, .int .i64 a]] w fun e w' => e = .returned (.bool true) ∧ Below w.heap.size w w' := by
  have hB : Below w.heap.size w ((w.alloc (.cells #[.int .i64 q, .string T, .int .i64 a] 35)).alloc (.cells #[.int .i64 q, .string T, .int .i64 a] 37)) := ((Below.refl _ _).alloc (Nat.le_refl _) _).alloc (by simp) _
  have HB := Lib.hid hB
  clear hB
  go_enter Tryd.func11, Tryd.ntmps11
  go_wp2
  go_ret
  exact ⟨rfl, HB.out⟩

/-- both lists, between two rounds. -/
def LsI (w : World) (A A' : Option Addr) (L : List Tk) (W : World) : Prop := Below w.heap.size w W ∧ TRow W A L ∧ TRow W A' L
theorem LsI.below {w X Y : World} {A A' : Option Addr} {L : List Tk} (h : LsI w A A' L X) (hb : Below X.heap.size X Y) : LsI w A A' L Y := ⟨h.1.trans (hb.mono h.1.size), h.2.1.below hb, h.2.2.below hb⟩

set_option maxRecDepth 100000 in
set_option maxHeartbeats 2000000 in
theorem lists_walk (s : ByteArray) (w : World) (hs : s.size ≤ maxLen) (hL : Lays w) :
    Calls Tryd.prog 3 #[.string s] w fun e w' => e = .returned (.bool true) ∧ Below w.heap.size w w' := by
  have HAl := Lib.hid (alive_any w hL)
  have HL := Lib.hid hL
  have HLi := Lib.hid (fun W (hb : Below w.heap.size w W) => ListU_any s W hs (HL.out.below hb))
  have HRa := Lib.hid (fun W => refAll_any s W hs)
  have hln : (ansOf s).1.length ≤ 4000 := by
    unfold ansOf
    split
    · simp
    · split
      · simp
      · have := (lexA_len (kw := kindW) 0 s.data.toList).2
        simp only [show s.data.toList.length = s.size by simp] at this
        simp only
        omega
  generalize ansOf s = an at HLi HRa hln
  obtain ⟨L, n, p⟩ := an
  simp only at hln
  unfold maxLen at hs
  clear hL
  go_enter Tryd.func3, Tryd.ntmps3
  go_wp2_with fail
  refine HAl.out.mono ?_
  rintro e w1 ⟨rfl, b1⟩
  have B1 := Lib.hid b1
  clear b1 HAl
  by_cases hl : (4100 : Int) < (s.size : Int)
  · go_wp2
    go_ret
    exact ⟨rfl, B1.out⟩
  · go_wp2_with fail
    refine (HLi.out w1 B1.out).mono ?_
    rintro e w2 ⟨A, c, rfl, hr, b2⟩
    have B2 := Lib.hid (B1.out.trans (b2.mono B1.out.size))
    have HR := Lib.hid hr
    simp only
    clear b2 hr HLi
    go_wp2_with fail
    refine (HRa.out w2).mono ?_
    rintro e w3 ⟨A', c', rfl, hr', b3⟩
    have HI3 : Hid (LsI w A A' L w3) := ⟨B2.out.trans (b3.mono B2.out.size), HR.out.below b3, hr'⟩
    have HN := Lib.hid (fun W => Num_any n W)
    simp only
    clear b3 hr' HRa HR
    go_wp2_with fail
    refine (HN.out _).mono ?_
    rintro e w4 ⟨rfl, rfl⟩
    go_wp2_with fail
    go_loopw [45] (fun i wr => ∃ k : Nat, k ≤ L.length ∧ i = .int .i64 k ∧ Hid (LsI w A A' L wr)) (fun i _ => L.length - (intOf i).toNat)
    case atStart => exact ⟨0, Nat.zero_le _, rfl, HI3.out⟩
    case round =>
      obtain ⟨k, hk, rfl, HI⟩ := hrel
      by_cases hlt : k < L.length
      · obtain ⟨b, o, rfl, hbw, c0, c1, c2⟩ := HI.out.2.1.at_ hlt
        obtain ⟨b', o', rfl, hbw', d0, d1, d2⟩ := HI.out.2.2.at_ hlt
        generalize L[k] = x at c0 c1 c2 d0 d1 d2
        obtain ⟨q, t, a⟩ := x
        simp only at c0 c1 c2 d0 d1 d2
        obtain ⟨T, hT⟩ : ∃ T, bts t = T := ⟨_, rfl⟩
        rw [hT] at c1 d1
        clear hT
        have hbd := (Below.refl wr.heap.size wr).drew
        obtain ⟨wd, hwd⟩ : ∃ wd, wd = wr.drew := ⟨_, rfl⟩
        rw [← hwd] at hbd
        have e0 := (hbd.cell (p := ⟨b, o + k * 3, none⟩) hbw).trans c0
        have e1 := (hbd.cell (p := ⟨b, o + k * 3 + 1, none⟩) hbw).trans c1
        have e2 := (hbd.cell (p := ⟨b, o + k * 3 + 2, none⟩) hbw).trans c2
        have f0 := (hbd.cell (p := ⟨b', o' + k * 3, none⟩) hbw').trans d0
        have f1 := (hbd.cell (p := ⟨b', o' + k * 3 + 1, none⟩) hbw').trans d1
        have f2 := (hbd.cell (p := ⟨b', o' + k * 3 + 2, none⟩) hbw').trans d2
        have HID := Lib.hid (HI.out.below hbd)
        have HWd := Lib.hid hwd
        have HS := Lib.hid (is_same (q : Int) (a : Int) T wd)
        clear hwd hbd c0 c1 c2 d0 d1 d2
        go_wp2_with fail
        refine wp_region_still_tail 8 (by kernel_rfl) (by kernel_rfl) ?_
        simp only [List.take_succ_cons, List.take_zero, List.drop_succ_cons, List.drop_zero]
        change wpStill _ _ (World.drew _) _ _ _
        rw [← HWd.out]
        repeat still_step
        refine wpStill_nil ?_
        change wpList _ _ _ _ _ (World.drew _)
        rw [← HWd.out]
        clear e0 e1 e2 f0 f1 f2
        go_wp2_with fail
        refine HS.out.mono ?_
        rintro e w5 ⟨rfl, b5⟩
        have HQ := Lib.hid (HID.out.below b5)
        clear b5
        go_wp2
        go_roundw
        case rel => exact ⟨k + 1, by omega, by go_num, HQ⟩
        case measure => simp [intOf]; omega
      · go_wp2
        go_ret
        exact ⟨rfl, HI.out.1⟩
end Go.Proofs.YtgjcaadgkeebpaaDoor
