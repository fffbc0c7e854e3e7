/- LexGaps: between tokens there are blanks and comments alone. Conditions: lex's two tables and strconv's variables as they are laid. -/
import Derived.Test.YtgjcaadgkeebpaaDoorLexK
namespace Go.Proofs.YtgjcaadgkeebpaaDoor
open Go.RowKit Go.Deep Go.Shelf

theorem part_text (s : ByteArray) (e a : Nat) : (s.extract e a).data.toList = (s.data.toList.drop e).take (a - e) := by
  simp
/-- a text without tokens. -/
theorem List_none (g : ByteArray) (w : World) (hg : g.size ≤ 4000) (h : lexA kindW 0 g.data.toList = ([], none)) (hL : Lays w) :
    Calls Tryd.prog 8 #[.string g] w fun e w' => ∃ A c, e = .returned (.tuple #[.slice A 0 c, .int .i64 0, .nilIface]) ∧ Below w.heap.size w w' :=
  (List_any g w (by unfold maxLen; omega) hL).mono fun e w' h1 => by
    unfold LiPost at h1
    rw [if_neg (by omega), h] at h1
    obtain ⟨A, c, h2, _, _, h3⟩ := h1
    exact ⟨A, c, h2, h3⟩
def GpI (w : World) (A : Option Addr) (L : List Tk) (W : World) : Prop := Below w.heap.size w W ∧ TRow W A L
theorem GpI.below {w X Y : World} {A : Option Addr} {L : List Tk} (h : GpI w A L X) (hb : Below X.heap.size X Y) : GpI w A L Y := ⟨h.1.trans (hb.mono h.1.size), h.2.below hb⟩

set_option maxRecDepth 100000 in
set_option maxHeartbeats 2000000 in
theorem gaps_walk (s : ByteArray) (w : World) (hs : s.size ≤ maxLen) (hL : Lays w) :
    Calls Tryd.prog 6 #[.string s] w fun e w' => e = .returned (.bool true) ∧ Below w.heap.size w w' := by
  have HAl := Lib.hid (alive_any w hL)
  have HL := Lib.hid hL
  have HLi := Lib.hid (fun W (hb : Below w.heap.size w W) => List_any s W hs (HL.out.below hb))
  have k1 : ∀ w, (binOp .neq 25 .nilIface .nilIface).run Tryd.prog w = .ok (.bool false) w := fun w => by kernel_rfl
  have k2 : ∀ w, (binOp .neq 25 (eno 2) .nilIface).run Tryd.prog w = .ok (.bool true) w := fun w => by kernel_rfl
  unfold maxLen at hs
  clear hL
  go_enter Tryd.func6, Tryd.ntmps6
  go_wp2_with fail
  refine HAl.out.mono ?_
  rintro e w1 ⟨rfl, b1⟩
  have B1 := Lib.hid b1
  clear b1 HAl
  by_cases hl : (2000 : Int) < (s.size : Int)
  · go_wp2
    go_ret
    exact ⟨rfl, B1.out⟩
  · go_wp2_with fail
    refine (HLi.out w1 B1.out).mono ?_
    rintro e w2 h2
    unfold LiPost at h2
    rw [if_neg (by omega)] at h2
    have HGa := Lib.hid (lexA_gaps (kw := kindW) s.data.toList 0 (Nat.zero_le _))
    rw [List.drop_zero] at HGa
    have hll := (lexA_len (kw := kindW) 0 s.data.toList).2
    simp only [show s.data.toList.length = s.size by simp] at hll
    generalize hR : lexA kindW 0 s.data.toList = R at h2 HGa hll
    clear hR
    obtain ⟨L, o⟩ := R
    cases o with
    | some p =>
      simp only at h2
      obtain ⟨rfl, b2⟩ := h2
      have B2 := Lib.hid (B1.out.trans (b2.mono B1.out.size))
      clear b2 HLi HGa
      go_wp2
      go_ret
      exact ⟨rfl, B2.out⟩
    | none =>
      simp only at h2 HGa hll
      obtain ⟨A, c, rfl, _, hr, b2⟩ := h2
      have HG0 := Lib.hid (HGa.out trivial)
      have HI2 : Hid (GpI w A L w2) := ⟨B1.out.trans (b2.mono B1.out.size), hr⟩
      clear b2 hr HLi HGa
      go_wp2_with fail
      go_loopw [6, 7] (fun en i wr => ∃ k e : Nat, k ≤ L.length + 1 ∧ i = .int .i64 k ∧ en = .int .i64 e ∧ Hid (k ≤ L.length → GapsOk kindW s.data.toList e (L.drop k)) ∧ Hid (GpI w A L wr)) (fun _ i _ => L.length + 1 - (intOf i).toNat)
      case atStart => exact ⟨0, 0, by omega, rfl, rfl, fun _ => HG0.out, HI2.out⟩
      case round =>
        obtain ⟨k, e, hk, rfl, rfl, HG, HI⟩ := hrel
        by_cases hle : k ≤ L.length
        · have hg := HG.out hle
          by_cases hlt : k < L.length
          · rw [List.drop_eq_getElem_cons hlt] at hg
            obtain ⟨b, o, rfl, hbw, c0, c1, c2⟩ := HI.out.2.at_ hlt
            generalize L[k] = x at c0 c1 c2 hg
            obtain ⟨q, t, a⟩ := x
            obtain ⟨g1, g2, g3, g4⟩ := hg
            simp only at c0 c1 c2 g1 g2 g3
            simp only [show s.data.toList.length = s.size by simp] at g2
            rw [← part_text] at g3
            have HLn := Lib.hid (fun W (hb : Below w.heap.size w W) => List_none (s.extract e a) W (by simp; omega) g3 (HL.out.below hb))
            have HG4 : Hid (k + 1 ≤ L.length → GapsOk kindW s.data.toList (a + t.length) (L.drop (k + 1))) := fun _ => g4
            have hTz : (bts t).size = t.length := bts_size t
            obtain ⟨T, hT⟩ : ∃ T, bts t = T := ⟨_, rfl⟩
            rw [hT] at c1 hTz
            clear hT g3 g4
            go_wp2_with fail
            refine (HLn.out _ HI.out.1).mono ?_
            rintro e' w3 ⟨A3, c3, rfl, b3⟩
            have HI3 := Lib.hid (HI.out.below b3)
            have d0 := (b3.cell (p := ⟨b, o + k * 3, none⟩) hbw).trans c0
            have d1 := (b3.cell (p := ⟨b, o + k * 3 + 1, none⟩) hbw).trans c1
            have d2 := (b3.cell (p := ⟨b, o + k * 3 + 2, none⟩) hbw).trans c2
            clear c0 c1 c2 b3 HLn
            go_wp2
            go_roundw
            case rel => exact ⟨k + 1, a + t.length, by omega, by go_num, by go_num, HG4, HI3⟩
            case measure => simp [intOf]; omega
          · have hkl : k = L.length := by omega
            subst hkl
            rw [List.drop_length] at hg
            obtain ⟨g1, g2⟩ := hg
            simp only [show s.data.toList.length = s.size by simp] at g1
            have g3 : lexA kindW 0 (s.extract e s.size).data.toList = ([], none) := by rw [drop_text]; exact g2
            have HLn := Lib.hid (fun W (hb : Below w.heap.size w W) => List_none (s.extract e s.size) W (by simp; omega) g3 (HL.out.below hb))
            clear g2 g3
            go_wp2_with fail
            refine (HLn.out _ HI.out.1).mono ?_
            rintro e' w3 ⟨A3, c3, rfl, b3⟩
            have HI3 := Lib.hid (HI.out.below b3)
            clear b3 HLn
            go_wp2
            go_roundw
            case rel => exact ⟨L.length + 1, e, by omega, by go_num, rfl, fun h => absurd h (by omega), HI3⟩
            case measure => simp [intOf]
        · go_wp2
          go_ret
          exact ⟨rfl, HI.out.1⟩
end Go.Proofs.YtgjcaadgkeebpaaDoor
