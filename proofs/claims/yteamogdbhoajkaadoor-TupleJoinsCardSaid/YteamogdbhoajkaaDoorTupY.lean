/- TupleJoins' walk: the law's own steps, for every two tuples. Conditions: the library's table; texts within the form's reach; that the chapter's example is so (proved beside). -/
import Derived.Test.YteamogdbhoajkaaDoorTupX
namespace Go.Proofs.YteamogdbhoajkaaDoor
open Go.RowKit Go.Deep

/-- numbers in a row, from s on. -/
def rng (s n : Nat) : List Int := (List.range n).map fun i => ((s + i : Nat) : Int)
theorem rng_len (s n : Nat) : (rng s n).length = n := by simp [rng]
theorem rng_snoc (s n : Nat) : rng s (n + 1) = rng s n ++ [((s + n : Nat) : Int)] := by simp [rng, List.range_succ]
theorem pick_rng (l a m b : List V3) (h : l = a ++ m ++ b) : (rng a.length m.length).any (badC l.length) = false ∧ pickT l (rng a.length m.length) = m := by
  subst h
  constructor
  · rw [List.any_eq_false]
    intro c hc
    simp only [rng, List.mem_map, List.mem_range] at hc
    obtain ⟨i, hi, rfl⟩ := hc
    simp [badC]
    omega
  · apply List.ext_getElem?
    intro i
    simp only [pickT, rng, List.map_map, List.getElem?_map]
    rcases Nat.lt_or_ge i m.length with hi | hi
    · rw [List.getElem?_range hi]
      simp only [Option.map_some, Function.comp]
      have e : ((a.length + i : Nat) : Int).toNat = a.length + i := Int.toNat_natCast _
      have e2 : (a ++ m ++ b)[a.length + i]? = m[i]? := by
        rw [List.append_assoc, List.getElem?_append_right (by omega), Nat.add_sub_cancel_left, List.getElem?_append_left hi]
      rw [e, List.getD, e2, List.getElem?_eq_getElem hi]
      rfl
    · rw [List.getElem?_eq_none (by simpa using hi), List.getElem?_eq_none hi]
      rfl
theorem pickR_left (a b : List V3) (h6 : a.length + b.length ≤ 6) : pickR (a ++ b) (rng 0 a.length) = (a, 0) := by
  obtain ⟨h1, h2⟩ := pick_rng (a ++ b) [] a b (by simp)
  have h1 : (rng 0 a.length).any (badC (a ++ b).length) = false := h1
  have h2 : pickT (a ++ b) (rng 0 a.length) = a := h2
  simp only [pickR, h1, h2, rng_len]
  rw [if_neg (by simp), if_neg (by omega)]
theorem pickR_right (a b : List V3) (h6 : a.length + b.length ≤ 6) : pickR (a ++ b) (rng a.length b.length) = (b, 0) := by
  obtain ⟨h1, h2⟩ := pick_rng (a ++ b) a b [] (by simp)
  simp only [pickR, h1, h2, rng_len]
  rw [if_neg (by simp), if_neg (by omega)]

/-- what the loop has gathered: the first numbers in one row, the others in another. -/
def Two (w : World) (la k : Nat) (A1 : Option Addr) (c1 m1 : Nat) (A2 : Option Addr) (c2 m2 : Nat) (wr : World) : Prop :=
  m1 = min k la ∧ m2 = k - la ∧ (k ≤ la → A2 = none ∧ c2 = 0) ∧ Below w.heap.size w wr ∧ wr.ownsRow w.heap.size 3 1 (.slice A1 m1 c1) m1 (ints (rng 0 m1)) ∧
  ∃ M, w.heap.size ≤ M ∧ M ≤ wr.heap.size ∧ (∀ g, (Value.slice A1 m1 c1).ownBlock = some g → g < M) ∧ wr.ownsRow M 3 1 (.slice A2 m2 c2) m2 (ints (rng la m2))
theorem Two.start (w wr : World) (la : Nat) (h : Below w.heap.size w wr) : Two w la 0 none 0 0 none 0 0 wr :=
  ⟨by simp, by simp, (fun _ => ⟨rfl, rfl⟩), h, World.ownsRow_nil _ _ _ _, w.heap.size, Nat.le_refl _, h.size, (fun g hg => by cases hg), World.ownsRow_nil _ _ _ _⟩
theorem Two.left {w wr w' : World} {la k : Nat} {A1 A2 : Option Addr} {c1 c2 m1 m2 : Nat} (h : Two w la k A1 c1 m1 A2 c2 m2 wr) (hk : k < la) {A' : Option Addr} {c' : Nat} {o : Obj}
    (ho : w'.ownsRow w.heap.size 3 1 (.slice A' (m1 + 1) c') (m1 + 1) (ints (rng 0 m1 ++ [(k : Int)]))) (hg : (wr.alloc o).grownBy w' (Value.slice A1 m1 c1).ownBlock) : Two w la (k + 1) A' c' (m1 + 1) A2 c2 m2 w' := by
  obtain ⟨h1, h2, h3, h4, h5, M, h6, h7, h8, h9⟩ := h
  have hm1 : m1 = k := by omega
  obtain ⟨rfl, rfl⟩ := h3 (by omega)
  have hm2 : m2 = 0 := by omega
  subst hm2
  have hB : Below w.heap.size w w' := (h4.alloc (by have := h4.size; omega) o).grown hg (by have := h4.size; simp; omega) (fun g hgg => (h5.lt g hgg).1)
  refine ⟨by omega, by omega, fun _ => ⟨rfl, rfl⟩, hB, ?_, w'.heap.size, hB.size, Nat.le_refl _, fun g hgg => (ho.lt g hgg).2, World.ownsRow_nil _ _ _ _⟩
  rw [rng_snoc, Nat.zero_add, hm1]
  rw [hm1] at ho
  exact ho
theorem Two.right {w wr w' : World} {la k : Nat} {A1 A2 : Option Addr} {c1 c2 m1 m2 M : Nat} (h1 : m1 = min k la) (h2 : m2 = k - la) (h4 : Below w.heap.size w wr) (h5 : wr.ownsRow w.heap.size 3 1 (.slice A1 m1 c1) m1 (ints (rng 0 m1)))
    (h6 : w.heap.size ≤ M) (h7 : M ≤ wr.heap.size) (h8 : ∀ g, (Value.slice A1 m1 c1).ownBlock = some g → g < M) (h9 : wr.ownsRow M 3 1 (.slice A2 m2 c2) m2 (ints (rng la m2))) (hk : ¬ k < la) {A' : Option Addr} {c' : Nat} {o : Obj}
    (ho : w'.ownsRow M 3 1 (.slice A' (m2 + 1) c') (m2 + 1) (ints (rng la m2 ++ [(k : Int)]))) (hg : (wr.alloc o).grownBy w' (Value.slice A2 m2 c2).ownBlock) : Two w la (k + 1) A1 c1 m1 A' c' (m2 + 1) w' := by
  have hB : Below w.heap.size w w' := (h4.alloc (by have := h4.size; omega) o).grown hg (by have := h4.size; simp; omega) (fun g hgg => by have := (h9.lt g hgg).1; omega)
  refine ⟨by omega, by omega, fun h => by omega, hB, (h5.alloc o).kept hg ?_, M, h6, ?_, h8, ?_⟩
  · cases e1 : (Value.slice A1 m1 c1).ownBlock with
    | none => exact .inl rfl
    | some g =>
      refine .inr fun e => ?_
      have := (h9.lt g e.symm).1
      have := h8 g e1
      omega
  · have := hg.size
    simp at this
    omega
  · rw [rng_snoc]
    have : la + m2 = k := by omega
    rw [this]
    exact ho

set_option maxRecDepth 100000 in
set_option maxHeartbeats 2000000 in
theorem joins_walk (hal : AliveOk) (A A' : Option Addr) (c c' : Nat) (a b : List V3) (hl : a.length ≤ maxLen) (hl' : b.length ≤ maxLen) (hn : A = none → c = 0) (hn' : A' = none → c' = 0) (hi : Inb a) (hi' : Inb b) (w : World) (hT : Tab w) (hr : Row w A a) (hr' : Row w A' b) :
    Calls Tryd.prog 7 #[.slice A a.length c, .slice A' b.length c'] w fun e w' => e = .returned (.bool true) ∧ Below w.heap.size w w' := by
  have HN := Lib.hid hn
  have HN' := Lib.hid hn'
  have HI := Lib.hid hi
  have HI' := Lib.hid hi'
  have HT := Lib.hid hT
  have HR := Lib.hid hr
  have HR' := Lib.hid hr'
  have HL := Lib.hid hl
  have HL' := Lib.hid hl'
  have HAL := Lib.hid hal
  unfold maxLen at hl hl'
  clear hn hi hT hr hal hn' hi' hr'
  go_enter Tryd.func7, Tryd.ntmps7
  go_wp2_with fail
  refine (HAL.out w HT.out).mono ?_
  rintro e w1 ⟨rfl, b1⟩
  have BA := Lib.hid (b1.alloc b1.size (.cells #[.slice A a.length c, .slice A' b.length c'] 23))
  have R1 := Lib.hid (HR.out.below BA.out)
  have R1' := Lib.hid (HR'.out.below BA.out)
  clear b1
  go_wp2_with fail
  refine (Long2 A A' c c' a b _ _ (by simp) (by go_simp) (by go_simp) R1.out HI.out HL.out R1'.out HI'.out HL'.out).mono ?_
  rintro e w2 ⟨r, rfl, hsm, b2⟩
  have B2 := Lib.hid (BA.out.trans (b2.mono BA.out.size))
  clear b2 R1 R1'
  cases r with
  | true =>
    clear hsm
    go_wp2
    go_ret
    exact ⟨rfl, B2.out⟩
  | false =>
    obtain ⟨h50, _⟩ := hsm rfl (A, c, a) (by simp)
    obtain ⟨h50', _⟩ := hsm rfl (A', c', b) (by simp)
    have h50 : a.length ≤ 50 := h50
    have h50' : b.length ≤ 50 := h50'
    clear hsm
    by_cases h6 : (6 : Int) < (a.length : Int) + (b.length : Int)
    · go_wp2
      go_ret
      exact ⟨rfl, B2.out⟩
    · go_wp2_with fail
      refine (Join_ok A A' c c' a b (by omega) HN.out HN'.out _ (HR.out.below B2.out) (HR'.out.below B2.out)).mono ?_
      rintro e w3 ⟨AJ, cJ, rfl, rj, b3⟩
      have B3 := Lib.hid (B2.out.trans (b3.mono B2.out.size))
      have RJ := Lib.hid rj
      have PL := Lib.hid (pickR_left a b (by omega))
      have PR := Lib.hid (pickR_right a b (by omega))
      have hjl : (a.length : Int) + (b.length : Int) = ((a ++ b).length : Int) := by simp
      have hj6 : (a ++ b).length ≤ 6 := by simp; omega
      have HJN := Lib.hid (show (a ++ b).length = a.length + b.length by simp)
      clear b3 rj
      generalize a ++ b = j at RJ PL PR hjl hj6 HJN
      go_wp2
      go_loopw [7, 8, 47] (fun vl vr i wr => ∃ k : Nat, k ≤ j.length ∧ i = .int .i64 k ∧ ∃ A1 c1 m1 A2 c2 m2, vl = .slice A1 m1 c1 ∧ vr = .slice A2 m2 c2 ∧ Hid (Two w3 a.length k A1 c1 m1 A2 c2 m2 wr)) (fun _ _ i _ => j.length - (intOf i).toNat)
      case atStart => exact ⟨0, Nat.zero_le _, rfl, none, 0, 0, none, 0, 0, rfl, rfl, Two.start w3 w3 _ (Below.refl _ _)⟩
      case round =>
        obtain ⟨k, hk, rfl, A1, c1, m1, A2, c2, m2, rfl, rfl, HT2⟩ := hrel
        by_cases hlt : k < j.length
        · by_cases hka : k < a.length
          · have hB := HT2.out.2.2.2.1
            have hO := HT2.out.2.2.2.2.1
            have HO := Lib.hid hO
            have HSZ := Lib.hid hB.size
            have hm1 : m1 ≤ 1000 := by have := HT2.out.1; omega
            clear hB hO
            go_wp2_with (at_builtin; refine append_int _ rfl (.tmp 54) (.tmp 56) rfl w3.heap.size (rng 0 m1) _ m1 rfl HO.out (k : Int) rfl hm1 HSZ.out ?_)
            intro A5 c5 w5 ho5 hg5
            have HT5 := Lib.hid (HT2.out.left hka ho5 hg5)
            clear ho5 hg5 HT2 HO
            go_wp2
            go_roundw
            case rel => exact ⟨k + 1, by omega, by go_num, A5, c5, m1 + 1, A2, c2, m2, rfl, rfl, HT5.out⟩
            case measure => simp [intOf]; omega
          · obtain ⟨h1, h2, h3, h4, h5, M, h6', h7, h8, h9⟩ := HT2.out
            have HO := Lib.hid h9
            have HM := Lib.hid h7
            have hm2 : m2 ≤ 1000 := by omega
            have HRt := Lib.hid (fun (A'' : Option Addr) (c'' : Nat) (w'' : World) (o : Obj) h h' => Two.right (w' := w'') (A' := A'') (c' := c'') (o := o) h1 h2 h4 h5 h6' h7 h8 h9 hka h h')
            clear h1 h2 h3 h4 h5 h6' h7 h8 h9 HT2
            go_wp2_with (at_builtin; refine append_int _ rfl (.tmp 58) (.tmp 60) rfl M (rng a.length m2) _ m2 rfl HO.out (k : Int) rfl hm2 HM.out ?_)
            intro A5 c5 w5 ho5 hg5
            have HT5 := Lib.hid (HRt.out _ _ _ _ ho5 hg5)
            clear ho5 hg5 HO HRt
            go_wp2
            go_roundw
            case rel => exact ⟨k + 1, by omega, by go_num, A1, c1, m1, A5, c5, m2 + 1, rfl, rfl, HT5.out⟩
            case measure => simp [intOf]; omega
        · have hkl : k = j.length := by omega
          subst hkl
          obtain ⟨h1, h2, h3, h4, h5, M, h6', h7, h8, h9⟩ := HT2.out
          have hjn := HJN.out
          obtain rfl : m1 = a.length := by omega
          obtain rfl : m2 = b.length := by omega
          have C1 := Lib.hid (Cols.own h5).2
          have C2 := Lib.hid (Cols.own h9).2
          have B4 := Lib.hid (B3.out.trans (h4.mono B3.out.size))
          have RJ4 := Lib.hid (RJ.out.below h4)
          have hp1 := Pick_any AJ cJ j A1 c1 (rng 0 a.length) (by rw [rng_len]; omega) (by unfold maxLen; omega) wr RJ4.out C1.out
          rw [rng_len] at hp1
          have HP1 := Lib.hid hp1
          clear h1 h2 h3 h4 h5 h6' h7 h8 h9 hp1 HT2 hjn
          go_wp2_with fail
          refine HP1.out.mono ?_
          rintro e w5 ⟨A5, c5, rfl, r5, b5⟩
          have B5 := Lib.hid (B4.out.trans (b5.mono B4.out.size))
          have RJ5 := Lib.hid (RJ4.out.below b5)
          have C25 := Lib.hid (C2.out.below b5)
          rw [PL.out] at r5 ⊢
          rw [err0]
          have R5 := Lib.hid r5
          have hp2 := Pick_any AJ cJ j A2 c2 (rng a.length b.length) (by rw [rng_len]; omega) (by unfold maxLen; omega) w5 RJ5.out C25.out
          rw [rng_len] at hp2
          have HP2 := Lib.hid hp2
          clear b5 r5 hp2 HP1 C1 C2
          go_wp2_with fail
          refine HP2.out.mono ?_
          rintro e w6 ⟨A6, c6, rfl, r6, b6⟩
          have B6 := Lib.hid (B5.out.trans (b6.mono B5.out.size))
          have R56 := Lib.hid (R5.out.below b6)
          rw [PR.out] at r6 ⊢
          rw [err0]
          have R6 := Lib.hid r6
          clear b6 r6 HP2 R5
          go_wp2_with fail
          refine (Same_any A5 A c5 c a HL.out _ R56.out (HR.out.below B6.out)).mono ?_
          rintro e w7 ⟨rfl, b7⟩
          have B7 := Lib.hid (B6.out.trans (b7.mono B6.out.size))
          have R67 := Lib.hid (R6.out.below b7)
          clear b7 R56 R6
          go_wp2_with fail
          refine (Same_any A6 A' c6 c' b HL'.out _ R67.out (HR'.out.below B7.out)).mono ?_
          rintro e w8 ⟨rfl, b8⟩
          have B8 := Lib.hid (B7.out.trans (b8.mono B7.out.size))
          clear b8
          go_wp2
          go_ret
          exact ⟨rfl, B8.out⟩
end Go.Proofs.YteamogdbhoajkaaDoor
