/- LexTokens: the walk. Conditions: lex's two tables and strconv's variables as they are laid. -/
import Derived.Test.YtgjcaadgkeebpaaDoorLexTk
namespace Go.Proofs.YtgjcaadgkeebpaaDoor
open Go.RowKit Go.Deep Go.Shelf
attribute [local go_sem] Oper.semAt_some

/-- a store into a number's box leaves tokens as they are. -/
theorem row_set {X : World} {A : Option Addr} {L : List Tk} {q : Nat} {x y : Int} (h : TRow X A L) (ho : Own X q 3 [.int .i64 x]) : TRow (X.setCell ⟨q, 0, none⟩ (.int .i64 y)) A L := fun h0 => by
  have kb : Kept [q] X (X.setCell ⟨q, 0, none⟩ (.int .i64 y)) := (Kept.refl _ X).setCell (.inl (by simp)) _
  obtain ⟨b, o, e1, l1, c1⟩ := h h0
  have hne : b ∉ [q] := fun hm => by
    simp only [List.mem_singleton] at hm
    subst hm
    obtain ⟨_, d1, _⟩ := c1 0 _ (List.getElem?_eq_getElem h0)
    rw [ho.cell] at d1
    simp at d1
  refine ⟨b, o, e1, Nat.lt_of_lt_of_le l1 kb.size, fun i x hx => ?_⟩
  obtain ⟨d0, d1, d2⟩ := c1 i x hx
  exact ⟨(kb.cell (p := ⟨b, _, none⟩) l1 hne).trans d0, (kb.cell (p := ⟨b, _, none⟩) l1 hne).trans d1, (kb.cell (p := ⟨b, _, none⟩) l1 hne).trans d2⟩
/-- the world where the loop begins. -/
theorem tk_start {w w2 : World} {st : Int} {stp : Nat} {A : Option Addr} {c : Nat} {R : List Tk × Option Nat} (o3 : Own w2 w.heap.size 3 [.int .i64 st]) (o4 : Own w2 (w.heap.size + 1) 4 [.bool false]) (hr : TRow w2 A R.1) (hb : Below w.heap.size w w2) :
    TkI w w2.heap.size (w2.heap.size + 2) (stp : Int) A c R 0 ((((w2.setCell ⟨w.heap.size, 0, none⟩ (.int .i64 (stp : Int))).alloc (.cells #[.slice A R.1.length c] 28)).alloc (.cells #[.int .i64 (whereI R.2)] 3)).alloc (.cells #[.int .i64 0] 3)) ∧
    ((((w2.setCell ⟨w.heap.size, 0, none⟩ (.int .i64 (stp : Int))).alloc (.cells #[.slice A R.1.length c] 28)).alloc (.cells #[.int .i64 (whereI R.2)] 3)).alloc (.cells #[.int .i64 0] 3)).heap.size = w2.heap.size + 3 := by
  have kb : Kept [w.heap.size] w2 (w2.setCell ⟨w.heap.size, 0, none⟩ (.int .i64 (stp : Int))) := (Kept.refl _ w2).setCell (.inl (by simp)) _
  have hsz : (w2.setCell ⟨w.heap.size, 0, none⟩ (.int .i64 (stp : Int))).heap.size = w2.heap.size := by simp
  have h3 := o3.set 0 (.int .i64 (stp : Int))
  have h4 := kb.own o4 (by simp)
  have hr' := row_set (y := (stp : Int)) hr o3
  have hlow : Below w.heap.size w (w2.setCell ⟨w.heap.size, 0, none⟩ (.int .i64 (stp : Int))) := hb.setCell (p := ⟨w.heap.size, 0, none⟩) (Nat.le_refl _) _
  generalize w2.setCell ⟨w.heap.size, 0, none⟩ (.int .i64 (stp : Int)) = X at *
  have a5 : Own (X.alloc (.cells #[.slice A R.1.length c] 28)) X.heap.size 28 [.slice A R.1.length c] := heap_alloc_new _ _
  have a6 := heap_alloc_new (X.alloc (.cells #[.slice A R.1.length c] 28)) (.cells #[.int .i64 (whereI R.2)] 3)
  have a7 := heap_alloc_new ((X.alloc (.cells #[.slice A R.1.length c] 28)).alloc (.cells #[.int .i64 (whereI R.2)] 3)) (.cells #[.int .i64 0] 3)
  simp only [World.size_alloc] at a6 a7
  rw [hsz] at a5 a6 a7
  have a6' : Own ((X.alloc (.cells #[.slice A R.1.length c] 28)).alloc (.cells #[.int .i64 (whereI R.2)] 3)) (w2.heap.size + 1) 3 [.int .i64 (whereI R.2)] := a6
  have hbb : Below X.heap.size X (((X.alloc (.cells #[.slice A R.1.length c] 28)).alloc (.cells #[.int .i64 (whereI R.2)] 3)).alloc (.cells #[.int .i64 0] 3)) := (((Below.refl _ _).alloc (Nat.le_refl _) _).alloc (by simp) _).alloc (by simp; omega) _
  exact ⟨⟨h3.below hbb, h4.below hbb, (a5.alloc _).alloc _, a6'.alloc _, a7, hr'.below hbb, hlow.trans (hbb.mono hlow.size)⟩, by simp [hsz]⟩
/-- the document's list, its place as a number. -/
theorem refListW_any (s : ByteArray) (w : World) (hs : s.size ≤ 10000) : Calls Tryd.prog 12 #[.string s] w fun e w' =>
    ∃ A c, e = .returned (.tuple #[.slice A (lexA kindW 0 s.data.toList).1.length c, .int .i64 (whereI (lexA kindW 0 s.data.toList).2)]) ∧ TRow w' A (lexA kindW 0 s.data.toList).1 ∧ Below w.heap.size w w' :=
  (refList_any s w hs).mono fun e w' ⟨A, c, h1, h2, h3⟩ => ⟨A, c, by rw [h1]; cases (lexA kindW 0 s.data.toList).2 <;> rfl, h2, h3⟩

set_option maxRecDepth 100000 in
set_option maxHeartbeats 2000000 in
theorem tokens_walk (s : ByteArray) (st : Int) (w : World) (hs : s.size ≤ maxLen) (hL : Lays w) :
    Calls Tryd.prog 4 #[.string s, .int .i64 st] w fun e w' => e = .returned (.bool true) ∧ Below w.heap.size w w' := by
  refine (callsIn_wide (n := 9)).1 ?_
  have hf4 : Fence.wide.fn 4 := trivial
  have hf7 : Fence.wide.fn 7 := trivial
  have hf12 : Fence.wide.fn 12 := trivial
  have hf13 : Fence.wide.fn 13 := trivial
  have hf14 : Fence.wide.fn 14 := trivial
  have hf11 : Fence.wide.fn 11 := trivial
  have hf19 : Fence.wide.fn 19 := trivial
  have HG := Lib.hid hL.gl
  have HL := Lib.hid hL
  have hB0 : Below w.heap.size w ((w.alloc (.cells #[.int .i64 st] 3)).alloc (.cells #[.bool false] 4)) := ((Below.refl _ w).alloc (Nat.le_refl _) _).alloc (by simp) _
  have hO3 : Own ((w.alloc (.cells #[.int .i64 st] 3)).alloc (.cells #[.bool false] 4)) w.heap.size 3 [.int .i64 st] := by
    have h1 : Own (w.alloc (.cells #[.int .i64 st] 3)) w.heap.size 3 [.int .i64 st] := heap_alloc_new w _
    exact h1.alloc _
  have hO4 : Own ((w.alloc (.cells #[.int .i64 st] 3)).alloc (.cells #[.bool false] 4)) (w.heap.size + 1) 4 [.bool false] := by
    have h1 := heap_alloc_new (w.alloc (.cells #[.int .i64 st] 3)) (.cells #[.bool false] 4)
    rw [World.size_alloc] at h1
    exact h1
  obtain ⟨w0, hw0⟩ : ∃ w0, w0 = (w.alloc (.cells #[.int .i64 st] 3)).alloc (.cells #[.bool false] 4) := ⟨_, rfl⟩
  rw [← hw0] at hB0 hO3 hO4
  have HAl := Lib.hid (alive_any w0 (hL.below hB0))
  have B0 := Lib.hid hB0
  have O3 := Lib.hid hO3
  have O4 := Lib.hid hO4
  have HW := Lib.hid hw0
  have hs' := hs
  unfold maxLen at hs
  clear hL hB0 hO3 hO4 hw0
  refine callsIn_of_wp_marks Tryd.func4 rfl hf4 ?_ rfl
  simp only [Tryd.ntmps4, List.size_toArray, List.length_cons, List.length_nil, Nat.reduceAdd, Nat.reduceSub, Array.replicate_succ, Array.replicate_zero, List.push_toArray, List.append_toArray, List.nil_append, List.cons_append]
  gi_wp2_with fail
  rw [← HW.out]
  refine (callsIn_wide.2 HAl.out).mono ?_
  rintro e w1 ⟨rfl, b1⟩
  have B1 := Lib.hid (B0.out.trans (b1.mono B0.out.size))
  have O3 := Lib.hid (O3.out.below b1)
  have O4 := Lib.hid (O4.out.below b1)
  clear b1 B0 HAl
  have h40 := O4.out.cell 0
  have f40 := O4.out.frozen 0
  have q40 := O4.out.lt
  by_cases hl : (4100 : Int) < (s.size : Int)
  · gi_wp2
    exact ⟨.bool true, (by simp [results, Tryd.results4, go_sem, (O4.out.set 0 (.bool true)).cell 0]), rfl, B1.out.setCell (p := ⟨w.heap.size + 1, 0, none⟩) (by simp) _⟩
  · clear h40 f40 q40
    gi_wp2_with fail
    refine (callsIn_wide.2 (refListW_any s w1 (by omega))).mono ?_
    rintro e w2 ⟨A, c, rfl, hr, hb⟩
    obtain ⟨R, hR⟩ : ∃ R, lexA kindW 0 s.data.toList = R := ⟨_, rfl⟩
    rw [hR] at hr
    simp only [hR]
    have HR := Lib.hid hR
    have HRow := Lib.hid hr
    have HB2 := Lib.hid hb
    have O3 := Lib.hid (O3.out.below hb)
    have O4 := Lib.hid (O4.out.below hb)
    have B2 := Lib.hid (B1.out.trans (hb.mono B1.out.size))
    obtain ⟨stp, hst, hs1, hs40⟩ := stop40 st
    have HST := Lib.hid hst
    have h30 := O3.out.cell 0
    have f30 := O3.out.frozen 0
    have q30 := O3.out.lt
    clear hR hr hb hst
    obtain ⟨hI7, hs7⟩ := tk_start (stp := stp) (A := A) (c := c) (R := R) O3.out O4.out HRow.out B2.out
    gi_wp2_with fail
    rw [HST.out]
    simp only [Nat.add_assoc, Nat.reduceAdd]
    clear h30 f30 q30
    have hb2s := B2.out.size
    have hlt4 := O4.out.lt
    obtain ⟨b5, hb5⟩ : ∃ b, b = w2.heap.size := ⟨_, rfl⟩
    obtain ⟨w7, hw7⟩ : ∃ w7, w7 = ((((w2.setCell ⟨w.heap.size, 0, none⟩ (.int .i64 (stp : Int))).alloc (.cells #[.slice A R.1.length c] 28)).alloc (.cells #[.int .i64 (whereI R.2)] 3)).alloc (.cells #[.int .i64 0] 3)) := ⟨_, rfl⟩
    rw [← hw7] at hI7 hs7 ⊢
    rw [← hb5] at hI7 hs7 hlt4 ⊢
    have hb8 : Below w7.heap.size w7 (w7.alloc (.cells #[.string s] 9)) := (Below.refl _ _).alloc (Nat.le_refl _) _
    have hI8 := hI7.below hb8
    have hos : Own (w7.alloc (.cells #[.string s] 9)) w7.heap.size 9 [.string s] := heap_alloc_new _ _
    have hs8 : (w7.alloc (.cells #[.string s] 9)).heap.size = b5 + 4 := by rw [World.size_alloc, hs7]
    rw [hs7] at hos
    obtain ⟨w8, hw8⟩ : ∃ w8, w8 = w7.alloc (.cells #[.string s] 9) := ⟨_, rfl⟩
    rw [← hw8] at hI8 hos hs8
    have HI8 := Lib.hid hI8
    have HOs := Lib.hid hos
    have HS8 := Lib.hid hs8
    have HS7 := Lib.hid hs7
    have HW8 := Lib.hid hw8
    have h5lo : w.heap.size + 2 ≤ b5 := by omega
    have hlow8 : w.heap.size ≤ w8.heap.size := hI8.low.size
    clear hb5 hw7 hI7 hs7 hb8 hI8 hos hs8 hw8 O3 O4 B2 HB2 HRow hlt4 hb2s
    refine (callsIn_wide.2 (All_any s w7)).mono ?_
    rintro e w9 ⟨rfl, hw9⟩
    rw [← HW8.out] at hw9
    subst hw9
    gi_wp2_with fail
    rw [HS7.out]
    have hk1 : ∀ w, (binOp .neq 25 .nilIface .nilIface).run Tryd.prog w = .ok (.bool false) w := fun w => by kernel_rfl
    refine' range_law2 (Kp := Kf [] (b5 + 2) 0) (Px := fun pre x _ => (pre ++ [x]) <+: yOf R) (S := fun xs => xs = yOf R) (Sp := fun pre => pre <+: yOf R) (encs := fun x : Tk => #[tkV x, errT x.1]) rfl (by omega) (gf := 19) (lb := #[.pointer (some ⟨b5 + 3, 0, none⟩)]) rfl hf19 (enters_of Tryd.func19 (by kernel_rfl) rfl)
      ?seq (fun h h' => h.trans h') (fun X Y hX hc => Kf.of_calm hc (by have := HS8.out; omega) (by have := HS8.out; omega)) (fun _ => rfl)
      (fun pre W => pre.length < stp ∧ TkI w b5 (b5 + 2) (stp : Int) A c R pre.length W) (fun cd pre W => cd = Code.exit 0 ∧ pre.length ≤ stp ∧ (pre.length = stp ∨ pre = yOf R) ∧ TkI w b5 (b5 + 2) (stp : Int) A c R pre.length W) (fun pre X Y h hc => ⟨h.1, h.2.calm hc hlow8⟩) (fun cd pre X Y h hc => ⟨h.1, h.2.1, h.2.2.1, h.2.2.2.calm hc hlow8⟩)
      (fun _ _ _ _ h _ => h) ⟨by simp only [List.length_nil]; omega, HI8.out⟩ (fun x a W => ∃ Bx, b5 + 3 < Bx ∧ Own W Bx 35 (tkC x) ∧ a = { tmps := #[.string s, .int .i64 st, undef, .pointer (some ⟨w.heap.size, 0, none⟩), .pointer (some ⟨w.heap.size + 1, 0, none⟩), .pointer (some ⟨b5, 0, none⟩), .pointer (some ⟨b5 + 1, 0, none⟩), .pointer (some ⟨b5 + 2, 0, none⟩), .pointer (some ⟨Bx, 0, none⟩), errT x.1, undef, .bool true, .bool false, .string s, .int .i64 (s.size : Int), .bool (decide ((4100 : Int) < (s.size : Int))), .tuple #[.slice A R.1.length c, .int .i64 (whereI R.2)], .string s, .tuple #[.slice A R.1.length c, .int .i64 (whereI R.2)], .slice A R.1.length c, .int .i64 (whereI R.2), .int .i64 st, .int .u64 (IntKind.u64.wrap st), .int .u64 ((IntKind.u64.wrap st).tmod 40), .int .i64 (wrap64 ((IntKind.u64.wrap st).tmod 40)), .int .i64 (stp : Int), .string s, .func (.func 19) #[] #[.pointer (some ⟨b5 + 3, 0, none⟩)], tkV x, errT x.1, undef, undef, undef, undef, undef, undef, undef, undef, undef, undef, undef, undef, undef, undef, undef, undef, undef, undef, undef, undef, undef, undef, undef, undef, undef, undef, undef, undef, undef, undef, undef, undef, undef, undef, undef, undef, undef, undef, undef, undef, undef, undef, undef, undef, undef, undef, undef, undef, undef, undef, undef], defers := [] }) (fun x a X Y h hc => ?ax) ?assign ?body ?done ?stop
    case assign =>
      intro l x W K hW hK
      gi_wp2
      have hbw := (Below.refl W.heap.size W).alloc (o := .cells #[.int .i64 (x.1 : Int), .string (bts x.2.1), .int .i64 (x.2.2 : Int)] 35) (Nat.le_refl _)
      have hOx : Own (W.alloc (.cells #[.int .i64 (x.1 : Int), .string (bts x.2.1), .int .i64 (x.2.2 : Int)] 35)) W.heap.size 35 (tkC x) := heap_alloc_new _ _
      have hlw : b5 + 3 < W.heap.size := by have := HS8.out; omega
      obtain ⟨WX, hWX⟩ : ∃ WX, WX = W.alloc (.cells #[.int .i64 (x.1 : Int), .string (bts x.2.1), .int .i64 (x.2.2 : Int)] 35) := ⟨_, rfl⟩
      rw [← hWX] at hbw hOx ⊢
      generalize hBx : W.heap.size = Bx at hbw hOx hlw ⊢
      rw [← hBx] at hbw
      exact hK _ _ hbw ⟨Bx, hlw, hOx, rfl⟩
    case ax =>
      obtain ⟨Bx, h1, h2, h3⟩ := h
      exact ⟨Bx, h1, hc.own h2, h3⟩
    case seq =>
      intro l J Jx W hW hJ hJx hY h0
      have hIW := HI8.out.below hW
      have hf : footL [] (b5 + 2) 0 W = [] ++ [b5 + 2] := foot_int [] (hIW.o7.cell 0)
      have hoS := HOs.out.below hW
      have hal := all_in 8 (by omega) l [] (b5 + 2) 0 w.heap.size (b5 + 3) s J Jx W hs' (by omega) (HL.out.below hIW.low) HG.out (hoS.cell 0) hIW.o7.lt (fun k hk => by
        rw [hf] at hk
        simp only [List.nil_append, List.mem_singleton] at hk
        have := hIW.o7.lt
        omega) hJ hJx (by rw [HR.out]; exact hY) h0
      rw [HR.out] at hal
      exact hal
    case body =>
      rintro l pre ⟨q, t, o⟩ a W ⟨hlts, hI⟩ hpre ⟨Bx, hBx, hOx, rfl⟩
      have hlen : (pre ++ [((q, t, o) : Tk)]).length = pre.length + 1 := by simp
      have e2 : (((pre ++ [((q, t, o) : Tk)]).length : Nat) : Int) = (pre.length : Int) + 1 := by omega
      have g3 := hI.o3.cell 0
      have g4 := hI.o4.cell 0
      have g5 := hI.o5.cell 0
      have g6 := hI.o6.cell 0
      have g7 := hI.o7.cell 0
      have m3 := hI.o3.lt
      have m4 := hI.o4.lt
      have m5 := hI.o5.lt
      have m6 := hI.o6.lt
      have m7 := hI.o7.lt
      have n7 := hI.o7.frozen 0
      have y0 : W.cell? ⟨Bx, 0, none⟩ = some (.int .i64 (q : Int)) := hOx.cell 0
      have y1 : W.cell? ⟨Bx, 1, none⟩ = some (.string (bts t)) := hOx.cell 1
      have y2 : W.cell? ⟨Bx, 2, none⟩ = some (.int .i64 (o : Int)) := hOx.cell 2
      have yq := hOx.lt
      rcases next_of hpre with ⟨hk, hx⟩ | ⟨hk, hR2, hq, ht, hall⟩
      · have hq0 : q ≠ 0 := by
          have h1 := lexA_kinds 0 s.data.toList (q, t, o) (by rw [HR.out]; exact List.mem_of_getElem? hx)
          exact h1
        have e1 : errT q = .nilIface := by unfold errT; rw [if_neg hq0]
        have hki : ((pre.length : Int) == (R.1.length : Int)) = false := by simp only [beq_eq_false_iff_ne]; omega
        obtain ⟨b, o', rfl, hbw, c0, c1, c2⟩ := hI.row.at_ hk
        have hgx : R.1[pre.length] = (q, t, o) := by
          rw [List.getElem?_eq_getElem hk] at hx
          exact Option.some.inj hx
        rw [hgx] at c0 c1 c2
        simp only [e1]
        simp only at c0 c1 c2
        have hki0 : (pre.length : Int) < (R.1.length : Int) := by omega
        have hk00 : (0 : Int) ≤ (pre.length : Int) := by omega
        have HI := Lib.hid hI
        have HE2 := Lib.hid e2
        have HLn := Lib.hid hlen
        obtain ⟨T, hT⟩ : ∃ T, bts t = T := ⟨_, rfl⟩
        rw [hT] at c1 y1
        clear hI hpre hx hgx hOx hq0 e1 e2 hlen hT
        have mixed : Tryd.prog.follows .mixedOrders = true := by kernel_rfl
        gi_wp2_with fail
        gi_region_with (gi_at_call 11; refine (CallsIn.inRound l (callsIn_wide.2 (is_same (q : Int) (o : Int) T _))).mono ?_; rintro e w' ⟨rfl, hb⟩)
        all_goals
          have hbw : Below W.heap.size W w' := (Below.refl W.heap.size W).drew.trans hb
          have hI1 := HI.out.below hbw
          have hKb := (Kept.of [] hbw).keeps (fun _ h _ _ => by cases h) w9.heap.size
          have hKfb : Kf [] (b5 + 2) 0 W w' := Kf.of_below hbw m7
          clear g3 g4 g5 g6 g7 m3 m4 m5 m6 n7 y0 y1 y2 c0 c1 c2 yq hki0 hk00
          have m3 := hI1.o3.lt
          have g3 := hI1.o3.cell 0
          have g7 := hI1.o7.cell 0
          have q7 := hI1.o7.lt
          have n7 := hI1.o7.frozen 0
          obtain ⟨hB, hKF, hKf⟩ := hI1.bump h5lo (by omega) w9.heap.size (pre ++ [((q, t, o) : Tk)]).length
          rw [HE2.out] at hB hKF hKf
          have HB := Lib.hid hB
          have HKF := Lib.hid (hKb.trans hKF)
          have HKf := Lib.hid (hKfb.trans hKf)
          clear hb hbw hI1 hKb hKfb hB hKF hKf
          by_cases heq : pre.length + 1 = stp
          · have hq : ((pre.length : Int) + 1 == (stp : Int)) = true := by simp only [beq_iff_eq]; omega
            gi_wp2_with fail
            exact ⟨HKF.out, rfl, by rw [HLn.out]; omega, .inl (by rw [HLn.out]; exact heq), HB.out⟩
          · have hq : ((pre.length : Int) + 1 == (stp : Int)) = false := by simp only [beq_eq_false_iff_ne]; omega
            gi_wp2_with fail
            exact ⟨HKF.out, HKf.out, by rw [HLn.out]; omega, HB.out⟩
      · simp only at hq ht hR2
        subst hq ht
        have e1 : errT 0 = eno 2 := rfl
        have hwh : whereI R.2 = (o : Int) := by rw [hR2]; rfl
        rw [hwh] at g6
        simp only [e1]
        have hki : ((pre.length : Int) == (R.1.length : Int)) = true := by simp only [beq_iff_eq]; omega
        have HI := Lib.hid hI
        have HAll := Lib.hid hall
        have HIs := Lib.hid (fun W => Is_eno 2 2 W rfl true rfl)
        obtain ⟨hB, hKF, hKf⟩ := hI.bump h5lo (by omega) w9.heap.size (pre ++ [((0, [], o) : Tk)]).length
        rw [e2] at hB hKF hKf
        have HB := Lib.hid hB
        have HKF := Lib.hid hKF
        have hli : pre.length + 1 ≤ stp := by omega
        have HLn := Lib.hid hlen
        clear hI hpre hk hR2 hOx hwh hall hB hKF hKf e1 e2 hlen
        gi_wp2_with fail
        refine (CallsIn.inRound l (callsIn_wide.2 (HIs.out _))).mono ?_
        rintro e w' ⟨rfl, rfl⟩
        gi_wp2_with fail
        exact ⟨HKF.out, rfl, by rw [HLn.out]; exact hli, .inr HAll.out, HB.out⟩
    case done =>
      rintro D ys W hD rfl ⟨hlts, hI⟩ hK
      have g3 := hI.o3.cell 0
      have g4 := hI.o4.cell 0
      have g5 := hI.o5.cell 0
      have g6 := hI.o6.cell 0
      have g7 := hI.o7.cell 0
      have m3 := hI.o3.lt
      have m4 := hI.o4.lt
      have m5 := hI.o5.lt
      have m6 := hI.o6.lt
      have m7 := hI.o7.lt
      have n4 := hI.o4.frozen 0
      have HII := Lib.hid hI
      have HKD := Lib.hid hK
      have HD := Lib.hid hD
      have hmn : min (stp : Int) ((yOf R).length : Int) = ((yOf R).length : Int) := by omega
      obtain ⟨L, oo⟩ := R
      cases oo with
      | none =>
          have hy : (yOf (L, (none : Option Nat))).length = L.length := by simp [yOf]
          rw [hy] at g7 hmn
          have hwh : whereI (none : Option Nat) = -1 := rfl
          simp only [hwh] at g5 g6
          have hq0 : decide ((0 : Int) ≤ -1) = false := rfl
          clear hI hK hD hlts hy hwh
          gi_wp2_with fail
          have hK2 : (W.setCell ⟨w.heap.size + 1, 0, none⟩ (.bool true)).heap[D]? = some (.deferred (some [])) := (KeepsOthers.setCell _ _ _).same D _ HKD.out rfl
          have hO4 := HII.out.o4.set 0 (.bool true)
          have hcm : Calm w9.heap.size (W.setCell ⟨w.heap.size + 1, 0, none⟩ (.bool true)) ((W.setCell ⟨w.heap.size + 1, 0, none⟩ (.bool true)).putObj D (.deferred none)) := Calm.put _ hK2 rfl HD.out
          refine ⟨by simp, .inl ⟨_, _, rfl, run_takeDeferred hK2, ?_⟩⟩
          exact ⟨.bool true, (by simp [results, Tryd.results4, go_sem, (hcm.own hO4).cell 0]), rfl, Below.calm (HII.out.low.setCell (p := ⟨w.heap.size + 1, 0, none⟩) (by simp) _) hcm (Nat.le_refl _) hlow8⟩
      | some p =>
          have hy : (((yOf (L, some p)).length : Nat) : Int) = (L.length : Int) + 1 := by simp [yOf]
          rw [hy] at g7 hmn
          have hwh : whereI (some p) = (p : Int) := rfl
          simp only [hwh] at g5 g6
          have hp0 : (0 : Int) ≤ (p : Int) := by omega
          clear hI hK hD hlts hy hwh
          gi_wp2_with fail
          have hK2 : (W.setCell ⟨w.heap.size + 1, 0, none⟩ (.bool true)).heap[D]? = some (.deferred (some [])) := (KeepsOthers.setCell _ _ _).same D _ HKD.out rfl
          have hO4 := HII.out.o4.set 0 (.bool true)
          have hcm : Calm w9.heap.size (W.setCell ⟨w.heap.size + 1, 0, none⟩ (.bool true)) ((W.setCell ⟨w.heap.size + 1, 0, none⟩ (.bool true)).putObj D (.deferred none)) := Calm.put _ hK2 rfl HD.out
          refine ⟨by simp, .inl ⟨_, _, rfl, run_takeDeferred hK2, ?_⟩⟩
          exact ⟨.bool true, (by simp [results, Tryd.results4, go_sem, (hcm.own hO4).cell 0]), rfl, Below.calm (HII.out.low.setCell (p := ⟨w.heap.size + 1, 0, none⟩) (by simp) _) hcm (Nat.le_refl _) hlow8⟩
    case stop =>
      rintro D cd pre W hD hpre ⟨rfl, hle, hor, hI⟩ hK
      have g3 := hI.o3.cell 0
      have g4 := hI.o4.cell 0
      have g5 := hI.o5.cell 0
      have g6 := hI.o6.cell 0
      have g7 := hI.o7.cell 0
      have m3 := hI.o3.lt
      have m4 := hI.o4.lt
      have m5 := hI.o5.lt
      have m6 := hI.o6.lt
      have m7 := hI.o7.lt
      have n4 := hI.o4.frozen 0
      have HII := Lib.hid hI
      have HKD := Lib.hid hK
      have HD := Lib.hid hD
      have hln := hpre.length_le
      obtain ⟨L, oo⟩ := R
      cases oo with
      | none =>
          have hy : (yOf (L, (none : Option Nat))).length = L.length := by simp [yOf]
          rw [hy] at hln
          have hmn : min (stp : Int) (L.length : Int) = (pre.length : Int) := by
            rcases hor with h | h
            · omega
            · rw [h, hy] at hle ⊢
              omega
          have hwh : whereI (none : Option Nat) = -1 := rfl
          simp only [hwh] at g5 g6
          have hq0 : decide ((0 : Int) ≤ -1) = false := rfl
          clear hI hK hD hpre hor hle hln hy hwh
          gi_wp2_with fail
          gi_wp2_with fail
          have hK2 : (W.setCell ⟨w.heap.size + 1, 0, none⟩ (.bool true)).heap[D]? = some (.deferred (some [])) := (KeepsOthers.setCell _ _ _).same D _ HKD.out rfl
          have hO4 := HII.out.o4.set 0 (.bool true)
          have hcm : Calm w9.heap.size (W.setCell ⟨w.heap.size + 1, 0, none⟩ (.bool true)) ((W.setCell ⟨w.heap.size + 1, 0, none⟩ (.bool true)).putObj D (.deferred none)) := Calm.put _ hK2 rfl HD.out
          refine ⟨by simp, .inl ⟨_, _, rfl, run_takeDeferred hK2, ?_⟩⟩
          exact ⟨.bool true, (by simp [results, Tryd.results4, go_sem, (hcm.own hO4).cell 0]), rfl, Below.calm (HII.out.low.setCell (p := ⟨w.heap.size + 1, 0, none⟩) (by simp) _) hcm (Nat.le_refl _) hlow8⟩
      | some p =>
          have hy : (yOf (L, some p)).length = L.length + 1 := by simp [yOf]
          rw [hy] at hln
          have hmn : min (stp : Int) ((L.length : Int) + 1) = (pre.length : Int) := by
            rcases hor with h | h
            · omega
            · rw [h, hy] at hle ⊢
              omega
          have hwh : whereI (some p) = (p : Int) := rfl
          simp only [hwh] at g5 g6
          have hp0 : (0 : Int) ≤ (p : Int) := by omega
          have hlw : (L.length : Int) ≤ 4100 := by
            have h1 := (lexA_len (kw := kindW) 0 s.data.toList).2
            rw [HR.out] at h1
            simp only [Array.length_toList] at h1
            have h2 : s.data.size = s.size := rfl
            omega
          have hwr : wrap64 ((L.length : Int) + 1) = (L.length : Int) + 1 := by unfold wrap64; omega
          clear hI hK hD hpre hor hle hln hy hwh
          gi_wp2_with fail
          gi_wp2_with fail
          have hK2 : (W.setCell ⟨w.heap.size + 1, 0, none⟩ (.bool true)).heap[D]? = some (.deferred (some [])) := (KeepsOthers.setCell _ _ _).same D _ HKD.out rfl
          have hO4 := HII.out.o4.set 0 (.bool true)
          have hcm : Calm w9.heap.size (W.setCell ⟨w.heap.size + 1, 0, none⟩ (.bool true)) ((W.setCell ⟨w.heap.size + 1, 0, none⟩ (.bool true)).putObj D (.deferred none)) := Calm.put _ hK2 rfl HD.out
          refine ⟨by simp, .inl ⟨_, _, rfl, run_takeDeferred hK2, ?_⟩⟩
          exact ⟨.bool true, (by simp [results, Tryd.results4, go_sem, (hcm.own hO4).cell 0]), rfl, Below.calm (HII.out.low.setCell (p := ⟨w.heap.size + 1, 0, none⟩) (by simp) _) hcm (Nat.le_refl _) hlow8⟩
end Go.Proofs.YtgjcaadgkeebpaaDoor
