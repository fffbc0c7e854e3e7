/- LexBack: joined tokens are read as the same tokens, and stand where the text has them. Conditions: lex's two tables and strconv's variables as they are laid. -/
import Derived.Test.YtgjcaadgkeebpaaDoorLexK
namespace Go.Proofs.YtgjcaadgkeebpaaDoor
open Go.RowKit Go.Deep Go.Shelf

/-- the tokens of joined tokens. -/
theorem back_of (l : List UInt8) :
    (lexA kindW 0 (joinT (lexA kindW 0 l).1)).2 = none ∧ (lexA kindW 0 (joinT (lexA kindW 0 l).1)).1.map (fun x => (x.1, x.2.1)) = (lexA kindW 0 l).1.map fun x => (x.1, x.2.1) := by
  have hg := lexA_good (kw := kindW) 0 l
  have hj := lexA_join (kw := kindW) ((lexA kindW 0 l).1.map fun x => (x.1, x.2.1)) 0 (fun x hx => by
    obtain ⟨y, hy, rfl⟩ := List.mem_map.1 hx
    exact hg y hy)
  have e : ((lexA kindW 0 l).1.map fun x => (x.1, x.2.1)).map (·.2) = (lexA kindW 0 l).1.map fun x => x.2.1 := by simp
  rw [e] at hj
  exact ⟨hj.2, hj.1⟩
theorem joinT_len (l : List UInt8) : (joinT (lexA kindW 0 l).1).length ≤ 2 * l.length := by
  have hg := lexA_good (kw := kindW) 0 l
  have h1 := join_len ((lexA kindW 0 l).1.map fun x => x.2.1) (fun t ht => by
    obtain ⟨y, hy, rfl⟩ := List.mem_map.1 ht
    exact (hg y hy).ne)
  have h2 := (lexA_len (kw := kindW) 0 l).1
  rw [List.map_map] at h1
  rw [show (List.length ∘ fun x : Tk => x.2.1) = fun x : Tk => x.2.1.length from rfl] at h1
  unfold joinT
  omega
/-- both lists, and the world, between two rounds. -/
def BkI (w : World) (A A' : Option Addr) (L M : List Tk) (W : World) : Prop := Below w.heap.size w W ∧ TRow W A L ∧ TRow W A' M
theorem BkI.below {w X Y : World} {A A' : Option Addr} {L M : List Tk} (h : BkI w A A' L M X) (hb : Below X.heap.size X Y) : BkI w A A' L M Y := ⟨h.1.trans (hb.mono h.1.size), h.2.1.below hb, h.2.2.below hb⟩

set_option maxRecDepth 100000 in
set_option maxHeartbeats 2000000 in
theorem back_walk (s : ByteArray) (w : World) (hs : s.size ≤ maxLen) (hL : Lays w) :
    Calls Tryd.prog 5 #[.string s] w fun e w' => e = .returned (.bool true) ∧ Below w.heap.size w w' := by
  have HAl := Lib.hid (alive_any w hL)
  have HL := Lib.hid hL
  have HLi := Lib.hid (fun W (hb : Below w.heap.size w W) => List_any s W hs (HL.out.below hb))
  have k1 : ∀ w, (binOp .neq 25 .nilIface .nilIface).run Tryd.prog w = .ok (.bool false) w := fun w => by kernel_rfl
  have k2 : ∀ w, (binOp .neq 25 (eno 2) .nilIface).run Tryd.prog w = .ok (.bool true) w := fun w => by kernel_rfl
  unfold maxLen at hs
  clear hL
  go_enter Tryd.func5, Tryd.ntmps5
  go_wp2_with fail
  refine HAl.out.mono ?_
  rintro e w1 ⟨rfl, b1⟩
  have B1 := Lib.hid b1
  clear b1 HAl
  by_cases hl : (1500 : Int) < (s.size : Int)
  · go_wp2
    go_ret
    exact ⟨rfl, B1.out⟩
  · go_wp2_with fail
    refine (HLi.out w1 B1.out).mono ?_
    rintro e w2 h2
    unfold LiPost at h2
    rw [if_neg (by omega)] at h2
    have HAt := Lib.hid (lexA_at (kw := kindW) s.data.toList 0 (Nat.zero_le _))
    rw [List.drop_zero] at HAt
    have HBk := Lib.hid (back_of s.data.toList)
    have hjl := joinT_len s.data.toList
    have hll := (lexA_len (kw := kindW) 0 s.data.toList).2
    simp only [show s.data.toList.length = s.size by simp] at hjl hll
    generalize hR : lexA kindW 0 s.data.toList = R at h2 HAt HBk hjl hll
    clear hR
    obtain ⟨L, o⟩ := R
    cases o with
    | some p =>
      simp only at h2
      obtain ⟨rfl, b2⟩ := h2
      have B2 := Lib.hid (B1.out.trans (b2.mono B1.out.size))
      clear b2 HLi HAt HBk
      go_wp2
      go_ret
      exact ⟨rfl, B2.out⟩
    | none =>
      simp only at h2 HAt HBk hjl hll
      obtain ⟨A, c, rfl, _, hr, b2⟩ := h2
      obtain ⟨hm0, hm1⟩ := HBk.out
      have B2 := Lib.hid (B1.out.trans (b2.mono B1.out.size))
      have HR := Lib.hid hr
      have HJ := Lib.hid (Join_any A c L w2 (by omega) (by omega) hr)
      have HLj := Lib.hid (fun W (hb : Below w.heap.size w W) => List_any (bts (joinT L)) W (by rw [bts_size]; unfold maxLen; omega) (HL.out.below hb))
      have HM0 := Lib.hid hm0
      have HM1 := Lib.hid hm1
      have hjz : (bts (joinT L)).size ≤ 4000 := by rw [bts_size]; omega
      clear b2 hr hm0 hm1 HBk HLi
      go_wp2_with fail
      refine HJ.out.mono ?_
      rintro e w3 ⟨rfl, b3⟩
      have B3 := Lib.hid (B2.out.trans (b3.mono B2.out.size))
      have HR3 := Lib.hid (HR.out.below b3)
      clear b3 HJ HR
      go_wp2_with fail
      refine (HLj.out w3 B3.out).mono ?_
      rintro e w4 h4
      unfold LiPost at h4
      rw [if_neg (by omega), bts_list, HM0.out] at h4
      simp only at h4
      have HM1' : Hid ((lexA kindW 0 (joinT L)).1.map (fun x => (x.1, x.2.1)) = L.map fun x => (x.1, x.2.1)) := HM1.out
      generalize (lexA kindW 0 (joinT L)).1 = M at h4 HM1'
      obtain ⟨A', c', rfl, _, hrm, b4⟩ := h4
      have hlen : M.length = L.length := by
        have := congrArg List.length HM1'.out
        simpa using this
      have HI4 : Hid (BkI w A A' L M w4) := ⟨B3.out.trans (b4.mono B3.out.size), HR3.out.below b4, hrm⟩
      rw [hlen]
      have HLen := Lib.hid hlen
      clear hrm b4 hlen HLj HR3 HM0 HM1 hjl hjz
      go_wp2_with fail
      go_loopw [44] (fun i wr => ∃ k : Nat, k ≤ L.length ∧ i = .int .i64 k ∧ Hid (BkI w A A' L M wr)) (fun i _ => L.length - (intOf i).toNat)
      case atStart => exact ⟨0, Nat.zero_le _, rfl, HI4.out⟩
      case round =>
        obtain ⟨k, hk, rfl, HI⟩ := hrel
        by_cases hlt : k < L.length
        · have hltm : k < M.length := by have := HLen.out; omega
          obtain ⟨b, o, rfl, hbw, c0, c1, c2⟩ := HI.out.2.1.at_ hlt
          obtain ⟨b', o', rfl, hbw', d0, d1, d2⟩ := HI.out.2.2.at_ hltm
          have hsame : M[k].1 = L[k].1 ∧ M[k].2.1 = L[k].2.1 := by
            have h1 : (M.map fun x => (x.1, x.2.1))[k]? = (L.map fun x => (x.1, x.2.1))[k]? := by rw [HM1'.out]
            simp [hlt, hltm] at h1
            exact h1
          obtain ⟨hat1, hat2⟩ := HAt.out L[k] (List.getElem_mem hlt)
          rw [hsame.1] at d0
          rw [hsame.2] at d1
          generalize L[k] = x at c0 c1 c2 d0 d1 hat1 hat2
          generalize M[k].2.2 = a' at d2
          obtain ⟨q, t, a⟩ := x
          simp only at c0 c1 c2 d0 d1 hat1 hat2
          simp only [show s.data.toList.length = s.size by simp] at hat1
          have hE : s.extract a (a + (bts t).size) = bts t := by
            rw [← bts_of (s.extract a _), bts_size]
            congr 1
            rw [← hat2]
            simp
          have hTz : (bts t).size = t.length := bts_size t
          obtain ⟨T, hT⟩ : ∃ T, bts t = T := ⟨_, rfl⟩
          rw [hT] at c1 d1 hE hTz
          rw [← hTz] at hat1
          clear hT hat2 hsame hTz
          have hw1 : IntKind.i64.wrap ((s.size : Int) - (T.size : Int)) = (s.size : Int) - (T.size : Int) := IntWalk.i64_in _ (by omega)
          have hw2 : IntKind.i64.wrap ((a : Int) + (T.size : Int)) = (a : Int) + (T.size : Int) := IntWalk.i64_in _ (by omega)
          have hw3 : ((a : Int) + (T.size : Int)).toNat = a + T.size := by omega
          have hd0 : decide ((a : Int) < 0) = false := decide_eq_false (by omega)
          have hd1 : decide ((s.size : Int) - (T.size : Int) < (a : Int)) = false := decide_eq_false (by omega)
          have hat3 : (a : Int) + (T.size : Int) ≤ (s.size : Int) := by omega
          go_wp2_with fail
          go_quiet (fail)
          have HQ := Lib.hid (HI.out.below (below_drewN ((Below.refl wr.heap.size wr).alloc (o := .cells #[.int .i64 (q : Int), .string T, .int .i64 (a : Int)] 35) (Nat.le_refl _) ) nq))
          clear c0 c1 c2 d0 d1 d2 hE hw1 hw2 hw3 hd0 hd1 hat1 hat3
          go_wp2
          go_roundw
          case rel => exact ⟨k + 1, by omega, by go_num, HQ⟩
          case measure => simp [intOf]; omega
        · go_wp2
          go_ret
          exact ⟨rfl, HI.out.1⟩
end Go.Proofs.YtgjcaadgkeebpaaDoor
