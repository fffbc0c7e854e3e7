/- One token and nothing around it: lex.All's first token decides. Conditions: texts of at most 2^47 bytes; lex's two tables and strconv's variables as they are laid. What is right: numbers, leaves, zero parts, terms. Conditions: texts of at most 2^47 bytes; lex's two tables and strconv's variables as they are laid. What is right: terms, atoms, columns' kinds. Conditions: texts of at most 2^47 bytes; lex's two tables and strconv's variables as they are laid. -/
import Derived.Test.YtikohamfnnlhcaaGreatDoorPcTermB
import Derived.Test.YtikohamfnnlhcaaGreatDoorScL
import Derived.RegionIn
import Derived.Test.YtikohamfnnlhcaaGreatDoorScA
set_option linter.unusedVariables false
set_option linter.unusedSimpArgs false
namespace Go.Proofs.YtikohamfnnlhcaaGreatDoor
open Go.RowKit Go.Deep Go.Shelf
attribute [local go_sem] Oper.semAt_some

theorem tok_skip {l : List UInt8} {q : Nat} (h : tokOf kindW l = some (q, l)) : skipN false l = 0 ∧ l ≠ [] := by
  have h1 := tok_good h
  have h2 := h1.ne
  match l, h1, h2 with
  | c :: r, h1, _ =>
    obtain ⟨hb, hp⟩ := h1.head c r rfl
    exact ⟨skip_no hb hp, by simp⟩
theorem yOf_skip (l : List UInt8) : yOf (lexA kindW 0 l) = yOf (lexA kindW (skipN false l) (l.drop (skipN false l))) := by
  rw [lexA_skip 0 l (skipN false l) (by rw [skip_twice]; rfl), Nat.zero_add]
theorem sole_first {s : ByteArray} {q : Nat} {x : Tk} (hq : q ≠ 0) (h : [x] <+: yOf (lexA kindW 0 s.data.toList)) : soleB q s = (decide (x.1 = q) && decide (x.2.1 = s.data.toList)) := by
  unfold soleB
  generalize s.data.toList = l at h ⊢
  rw [yOf_skip] at h
  rw [Bool.eq_iff_iff]
  simp only [decide_eq_true_eq, Bool.and_eq_true]
  have h0 := skip_twice l
  generalize hn : skipN false l = n at h h0
  by_cases he : l.drop n = []
  · rw [yOf_end n _ he] at h
    have := h.length_le
    simp at this
  · cases ht : tokOf kindW (l.drop n) with
    | none =>
      rw [yOf_bad h0 he ht] at h
      obtain ⟨r, hr⟩ := h
      injection hr with hx _
      subst hx
      constructor
      · intro h1
        obtain ⟨h2, _⟩ := tok_skip h1
        have e : n = 0 := hn.symm.trans h2
        rw [e, List.drop_zero] at ht
        rw [ht] at h1
        cases h1
      · rintro ⟨h1, _⟩
        exact absurd h1.symm hq
    | some p =>
      obtain ⟨q', t⟩ := p
      rw [yOf_tok h0 he ht] at h
      obtain ⟨r, hr⟩ := h
      injection hr with hx _
      subst hx
      constructor
      · intro h1
        obtain ⟨h2, _⟩ := tok_skip h1
        have e : n = 0 := hn.symm.trans h2
        rw [e, List.drop_zero, h1] at ht
        injection ht with ht
        injection ht with h3 h4
        exact ⟨h3.symm, h4.symm⟩
      · rintro ⟨h1, h2⟩
        simp only at h1 h2
        subst h1 h2
        obtain ⟨h3, h4⟩ := tok_text ht
        have h5 := h4.length_le
        have h6 := List.length_pos_iff.2 h3
        rw [List.length_drop] at h5
        have e : n = 0 := by omega
        rw [e, List.drop_zero] at ht
        exact ht
theorem sole_none {s : ByteArray} {q : Nat} (h : yOf (lexA kindW 0 s.data.toList) = []) : soleB q s = false := by
  unfold soleB
  generalize s.data.toList = l at h ⊢
  rw [decide_eq_false_iff_not]
  intro h1
  obtain ⟨h2, h3⟩ := tok_skip h1
  rw [yOf_tok h2 h3 h1] at h
  cases h
/-- the boxes, between two rounds. -/
structure SoI (w : World) (s : ByteArray) (q : Nat) (v : Bool) (W : World) : Prop where
  o2 : Own W w.heap.size 9 [.string s]
  o3 : Own W (w.heap.size + 1) 193 [.int .i64 q]
  o4 : Own W (w.heap.size + 2) 4 [.bool v]
  low : Below w.heap.size w W
section
variable {w X Y : World} {s : ByteArray} {q B : Nat} {v : Bool}
theorem SoI.calm (h : SoI w s q v X) (hc : Calm B X Y) (hB : w.heap.size ≤ B) : SoI w s q v Y := ⟨hc.own h.o2, hc.own h.o3, hc.own h.o4, Below.calm h.low hc (Nat.le_refl _) hB⟩
theorem SoI.below (h : SoI w s q v X) (hb : Below X.heap.size X Y) : SoI w s q v Y := h.calm (B := w.heap.size) (Calm.of_below _ hb) (Nat.le_refl _)
theorem SoI.put (h : SoI w s q v X) (u : Bool) : SoI w s q u (X.setCell ⟨w.heap.size + 2, 0, none⟩ (.bool u)) := by
  have kb : Kept [w.heap.size + 2] X (X.setCell ⟨w.heap.size + 2, 0, none⟩ (.bool u)) := (Kept.refl _ X).setCell (.inl (by simp)) _
  exact ⟨kb.own h.o2 (by simp only [List.mem_singleton]; omega), kb.own h.o3 (by simp only [List.mem_singleton]; omega), h.o4.set 0 (.bool u), h.low.setCell (p := ⟨w.heap.size + 2, 0, none⟩) (by simp) _⟩
theorem SoI.put_keeps (h : SoI w s q v X) (u : Bool) (B0 : Nat) : KeepsFrom B0 X (X.setCell ⟨w.heap.size + 2, 0, none⟩ (.bool u)) := by
  have kb : Kept [w.heap.size + 2] X (X.setCell ⟨w.heap.size + 2, 0, none⟩ (.bool u)) := (Kept.refl _ X).setCell (.inl (by simp)) _
  refine kb.keeps (fun k hk o ho => ?_) _
  simp only [List.mem_singleton] at hk
  subst hk
  have h8 := h.o4
  unfold Own at h8
  rw [h8] at ho
  cases ho
  rfl
end
theorem sole_start (w : World) (s : ByteArray) (q : Nat) : SoI w s q false (((w.alloc (.cells #[.string s] 9)).alloc (.cells #[.int .i64 q] 193)).alloc (.cells #[.bool false] 4)) := by
  have a0 : Own (w.alloc (.cells #[.string s] 9)) w.heap.size 9 [.string s] := heap_alloc_new _ _
  have a1 := heap_alloc_new (w.alloc (.cells #[.string s] 9)) (.cells #[.int .i64 q] 193)
  have a2 := heap_alloc_new ((w.alloc (.cells #[.string s] 9)).alloc (.cells #[.int .i64 q] 193)) (.cells #[.bool false] 4)
  simp only [World.size_alloc] at a1 a2
  have a1' : Own ((w.alloc (.cells #[.string s] 9)).alloc (.cells #[.int .i64 q] 193)) (w.heap.size + 1) 193 [.int .i64 q] := a1
  exact ⟨(a0.alloc _).alloc _, a1'.alloc _, a2, (((Below.refl _ w).alloc (Nat.le_refl _) _).alloc (by simp) _).alloc (by simp; omega) _⟩
set_option maxRecDepth 100000 in
set_option maxHeartbeats 2000000 in
theorem sole_any (s : ByteArray) (q : Nat) (w : World) (hs : s.size ≤ 140737488351232) (hq : q ≠ 0) (hL : Lays w) :
    Calls Tryz.prog 128 #[.string s, .int .i64 q] w fun e w' => e = .returned (.bool (soleB q s)) ∧ Below w.heap.size w w' := by
  refine (callsIn_wide (n := 9)).1 ?_
  have hf4 : Fence.wide.fn 128 := trivial
  have hf13 : Fence.wide.fn 115 := trivial
  have hf19 : Fence.wide.fn 134 := trivial
  have HG := Lib.hid hL.gl
  have HL := Lib.hid hL
  have HQ0 := Lib.hid hq
  have hI7 := sole_start w s q
  have hs7 : (((w.alloc (.cells #[.string s] 9)).alloc (.cells #[.int .i64 q] 193)).alloc (.cells #[.bool false] 4)).heap.size = w.heap.size + 3 := by simp
  have HR1 : Hid (∀ x, [x] <+: yOf (lexA kindW 0 s.data.toList) → soleB q s = (decide (x.1 = q) && decide (x.2.1 = s.data.toList))) := fun x hx => sole_first hq hx
  have HR2 : Hid (yOf (lexA kindW 0 s.data.toList) = [] → soleB q s = false) := fun h => sole_none h
  have hs' : s.size ≤ maxLen := by unfold maxLen; omega
  obtain ⟨vv0, hvv⟩ : ∃ v, soleB q s = v := ⟨_, rfl⟩
  rw [hvv] at HR1 HR2 ⊢
  clear hL hq hvv
  refine callsIn_of_wp_marks Tryz.func128 rfl hf4 ?_ rfl
  simp only [Tryz.ntmps128, List.size_toArray, List.length_cons, List.length_nil, Nat.reduceAdd, Nat.reduceSub, Array.replicate_succ, Array.replicate_zero, List.push_toArray, List.append_toArray, List.nil_append, List.cons_append]
  gi_wp2_with fail
  simp only [Nat.add_assoc, Nat.reduceAdd]
  obtain ⟨w7, hw7⟩ : ∃ w7, w7 = (((w.alloc (.cells #[.string s] 9)).alloc (.cells #[.int .i64 q] 193)).alloc (.cells #[.bool false] 4)) := ⟨_, rfl⟩
  rw [← hw7] at hI7 hs7 ⊢
  have hb8 : Below w7.heap.size w7 (w7.alloc (.cells #[.string s] 9)) := (Below.refl _ _).alloc (Nat.le_refl _) _
  have hI8 := hI7.below hb8
  have hos : Own (w7.alloc (.cells #[.string s] 9)) w7.heap.size 9 [.string s] := heap_alloc_new _ _
  have hs8 : (w7.alloc (.cells #[.string s] 9)).heap.size = w.heap.size + 4 := by rw [World.size_alloc, hs7]
  rw [hs7] at hos
  obtain ⟨w8, hw8⟩ : ∃ w8, w8 = w7.alloc (.cells #[.string s] 9) := ⟨_, rfl⟩
  rw [← hw8] at hI8 hos hs8
  have HI8 := Lib.hid hI8
  have HOs := Lib.hid hos
  have HS8 := Lib.hid hs8
  have HS7 := Lib.hid hs7
  have HW8 := Lib.hid hw8
  have hlow8 : w.heap.size ≤ w8.heap.size := hI8.low.size
  clear hw7 hI7 hs7 hb8 hI8 hos hs8 hw8
  refine (callsIn_wide.2 (All_any s w7)).mono ?_
  rintro e w9 ⟨rfl, hw9⟩
  rw [← HW8.out] at hw9
  subst hw9
  gi_wp2_with fail
  rw [HS7.out]
  refine' range_law2 (Kp := Kf [] (w.heap.size + 1) 0) (Px := fun pre x _ => (pre ++ [x]) <+: yOf (lexA kindW 0 s.data.toList)) (S := fun xs => xs = yOf (lexA kindW 0 s.data.toList)) (Sp := fun pre => pre <+: yOf (lexA kindW 0 s.data.toList)) (encs := fun x : Tk => #[tkV x, errT x.1]) rfl (by omega) (gf := 134) (lb := #[.pointer (some ⟨w.heap.size + 3, 0, none⟩)]) rfl hf19 (enters_of Tryz.func134 (by kernel_rfl) rfl)
    ?seq (fun h h' => h.trans h') (fun X Y hX hc => Kf.of_calm hc (by have := HS8.out; omega) (by have := HS8.out; omega)) (fun _ => rfl)
    (fun pre W => pre = [] ∧ SoI w s q false W) (fun cd pre W => cd = Code.ret ∧ SoI w s q vv0 W) (fun pre X Y h hc => ⟨h.1, h.2.calm hc hlow8⟩) (fun cd pre X Y h hc => ⟨h.1, h.2.calm hc hlow8⟩)
    (fun _ _ _ _ h _ => h) ⟨rfl, HI8.out⟩ (fun x a W => ∃ Bx, w.heap.size + 3 < Bx ∧ Own W Bx 195 (tkC x) ∧ a = { tmps := #[.string s, .int .i64 (q : Int), .pointer (some ⟨w.heap.size, 0, none⟩), .pointer (some ⟨w.heap.size + 1, 0, none⟩), .pointer (some ⟨w.heap.size + 2, 0, none⟩), .pointer (some ⟨Bx, 0, none⟩), .string s, .func (.func 134) #[] #[.pointer (some ⟨w.heap.size + 3, 0, none⟩)], tkV x, errT x.1, undef, undef, undef, undef, undef, undef, undef, undef, undef, undef], defers := [] }) (fun x a X Y h hc => ?ax) ?assign ?body ?done ?stop
  case assign =>
    intro l x W K hW hK
    gi_wp2
    have hbw := (Below.refl W.heap.size W).alloc (o := .cells #[.int .i64 (x.1 : Int), .string (bts x.2.1), .int .i64 (x.2.2 : Int)] 195) (Nat.le_refl _)
    have hOx : Own (W.alloc (.cells #[.int .i64 (x.1 : Int), .string (bts x.2.1), .int .i64 (x.2.2 : Int)] 195)) W.heap.size 195 (tkC x) := heap_alloc_new _ _
    have hlw : w.heap.size + 3 < W.heap.size := by have := HS8.out; omega
    obtain ⟨WX, hWX⟩ : ∃ WX, WX = W.alloc (.cells #[.int .i64 (x.1 : Int), .string (bts x.2.1), .int .i64 (x.2.2 : Int)] 195) := ⟨_, rfl⟩
    rw [← hWX] at hbw hOx ⊢
    generalize hBx : W.heap.size = Bx at hbw hOx hlw ⊢
    rw [← hBx] at hbw
    exact hK _ _ hbw ⟨Bx, hlw, hOx, rfl⟩
  case ax =>
    obtain ⟨Bx, h1, h2, h3⟩ := h
    exact ⟨Bx, h1, hc.own h2, h3⟩
  case seq =>
    intro l J Jx W hW hJ hJx hY h0
    have hIW := HI8.out.below hW
    have hf : footL [] (w.heap.size + 1) 0 W = [] ++ [w.heap.size + 1] := foot_int [] (hIW.o3.cell 0)
    have hoS := HOs.out.below hW
    exact all_in 8 (by omega) l [] (w.heap.size + 1) 0 w.heap.size (w.heap.size + 3) s J Jx W hs' (by omega) (HL.out.below hIW.low) HG.out (hoS.cell 0) hIW.o3.lt (fun k hk => by
      rw [hf] at hk
      simp only [List.nil_append, List.mem_singleton] at hk
      have := hIW.o3.lt
      omega) hJ hJx hY h0
  case body =>
    rintro l pre ⟨q', t, o⟩ a W ⟨rfl, hI⟩ hpre ⟨Bx, hBx, hOx, rfl⟩
    have hv : vv0 = (decide (q' = q) && decide (t = s.data.toList)) := HR1.out (q', t, o) hpre
    have g2 := hI.o2.cell 0
    have g3 := hI.o3.cell 0
    have g4 := hI.o4.cell 0
    have m2 := hI.o2.lt
    have m3 := hI.o3.lt
    have m4 := hI.o4.lt
    have n4 := hI.o4.frozen 0
    have y0 : W.cell? ⟨Bx, 0, none⟩ = some (.int .i64 (q' : Int)) := hOx.cell 0
    have y1 : W.cell? ⟨Bx, 1, none⟩ = some (.string (bts t)) := hOx.cell 1
    have yq := hOx.lt
    have HI := Lib.hid (hI.put vv0)
    have HKF := Lib.hid (hI.put_keeps vv0 w9.heap.size)
    by_cases h1 : q' = q
    · have e1 : ((q' : Int) == (q : Int)) = true := by simp [h1]
      by_cases h2 : t = s.data.toList
      · have e2 : (t == s.toList) = true := by rw [Lib.toList_data, h2]; simp
        have hv' : vv0 = true := by rw [hv, h1, h2]; simp
        clear hI hOx h1 h2 hpre hv
        subst hv'
        gi_wp2_with fail
        exact ⟨HKF.out, rfl, HI.out⟩
      · have e2 : (t == s.toList) = false := by rw [Lib.toList_data]; simpa using h2
        have hv' : vv0 = false := by rw [hv]; simp [h2]
        clear hI hOx h1 h2 hpre hv
        subst hv'
        gi_wp2_with fail
        exact ⟨HKF.out, rfl, HI.out⟩
    · have e1 : ((q' : Int) == (q : Int)) = false := by simp only [beq_eq_false_iff_ne]; omega
      have hv' : vv0 = false := by rw [hv]; simp [h1]
      clear hI hOx h1 hpre hv
      subst hv'
      gi_wp2_with fail
      exact ⟨HKF.out, rfl, HI.out⟩
  case done =>
    rintro D ys W hD rfl ⟨h0, hI⟩ hK
    have hv := HR2.out h0
    subst hv
    have g4 := hI.o4.cell 0
    have m4 := hI.o4.lt
    have n4 := hI.o4.frozen 0
    have HII := Lib.hid (hI.put false)
    have hK2 : (W.setCell ⟨w.heap.size + 2, 0, none⟩ (.bool false)).heap[D]? = some (.deferred (some [])) := (KeepsOthers.setCell _ _ _).same D _ hK rfl
    have HKD := Lib.hid hK2
    clear hK2
    have HD := Lib.hid hD
    clear hI hK hD h0
    gi_wp2_with fail
    have hcm : Calm w9.heap.size (W.setCell ⟨w.heap.size + 2, 0, none⟩ (.bool false)) ((W.setCell ⟨w.heap.size + 2, 0, none⟩ (.bool false)).putObj D (.deferred none)) := Calm.put _ HKD.out rfl HD.out
    refine ⟨by simp, .inl ⟨_, _, rfl, run_takeDeferred HKD.out, ?_⟩⟩
    exact ⟨.bool false, (by simp [results, Tryz.results128, go_sem, (hcm.own HII.out.o4).cell 0]), rfl, Below.calm HII.out.low hcm (Nat.le_refl _) hlow8⟩
  case stop =>
    rintro D cd pre W hD hpre ⟨rfl, hI⟩ hK
    have g4 := hI.o4.cell 0
    have HII := Lib.hid hI
    have HKD := Lib.hid hK
    have HD := Lib.hid hD
    clear hI hK hD hpre
    gi_wp2_with fail
    have hcm : Calm w9.heap.size W (W.putObj D (.deferred none)) := Calm.put _ HKD.out rfl HD.out
    refine ⟨by simp, .inl ⟨_, _, rfl, run_takeDeferred HKD.out, ?_⟩⟩
    exact ⟨.bool vv0, (by simp [results, Tryz.results128, go_sem, (hcm.own HII.out.o4).cell 0]), rfl, Below.calm HII.out.low hcm (Nat.le_refl _) hlow8⟩
end Go.Proofs.YtikohamfnnlhcaaGreatDoor

set_option linter.unusedVariables false
set_option linter.unusedSimpArgs false
namespace Go.Proofs.YtikohamfnnlhcaaGreatDoor
open Go.RowKit Go.Deep Go.Shelf

theorem beq0 {n : Nat} (h : n = 0) : ((n : Int) == 0) = true := by simp [h]
theorem beq0_not {n : Nat} (h : ¬ n = 0) : ((n : Int) == 0) = false := by simp only [beq_eq_false_iff_ne]; omega
theorem toList_inj' {a b : ByteArray} (h : a.toList = b.toList) : a = b := by
  rw [Lib.toList_data, Lib.toList_data] at h
  obtain ⟨⟨x⟩⟩ := a
  obtain ⟨⟨y⟩⟩ := b
  simpa using h
set_option maxRecDepth 100000 in
/-- '==' on terms. -/
theorem eqTm (x y : TTm) (b : Bool) (h : decide (x = y) = b) (w : World) : (binOp .eql 58 (.agg #[.string x.v, .int .i64 x.k, .int .i64 x.n, .string x.s]) (.agg #[.string y.v, .int .i64 y.k, .int .i64 y.n, .string y.s])).run Tryz.prog w = .ok (.bool b) w := by
  have u3 := Tryz.underlying3
  have a3 := Tryz.isAgg3
  have z3 := Tryz.sizeOf3
  have uk := Tryz.underlying54
  have ak := Tryz.isAgg54
  have zk := Tryz.sizeOf54
  have us := Tryz.underlying9
  have aas := Tryz.isAgg9
  have zs := Tryz.sizeOf9
  have uv := Tryz.underlying56
  have av := Tryz.isAgg56
  have zv := Tryz.sizeOf56
  have hS : Tryz.prog.underlying 58 = some (.struct (Tryz.prog.fieldsOf 58)) := by kernel_rfl
  have hp : Tryz.prog.stoodInHeld 58 = false := by kernel_rfl
  have hS2 : Tryz.prog.underlying 56 = some (.struct (Tryz.prog.fieldsOf 56)) := by kernel_rfl
  have hp2 : Tryz.prog.stoodInHeld 56 = false := by kernel_rfl
  obtain ⟨xv, xk, xn, xs⟩ := x
  obtain ⟨yv, yk, yn, ys⟩ := y
  rw [← h]
  rw [run_eql_struct, show (10000 : Nat) = 9999 + 1 from rfl, run_equalIn_agg w 9999 58 _ _ hS hp]
  simp only [Program.fieldsOf, Tryz.underlying58]
  go_simp
  have e1 : (xv.toList = yv.toList) ↔ xv = yv := ⟨toList_inj', fun h => by rw [h]⟩
  have e2 : (xs.toList = ys.toList) ↔ xs = ys := ⟨toList_inj', fun h => by rw [h]⟩
  simp only [e1, e2]
  clear h u3 a3 z3 uk ak zk us aas zs uv av zv hS hp hS2 hp2 e1 e2
  by_cases h1 : xv = yv
  · by_cases h2 : xk = yk
    · by_cases h3 : xn = yn
      · by_cases h4 : xs = ys
        · simp [h1, h2, h3, h4]
        · simp [h1, h2, h3, h4]
      · simp [h1, h2, h3]
    · simp [h1, h2]
  · simp [h1]
set_option maxRecDepth 100000 in
/-- '!=' on terms. -/
theorem neTm (x y : TTm) (b : Bool) (h : decide (x = y) = b) (w : World) : (binOp .neq 58 (.agg #[.string x.v, .int .i64 x.k, .int .i64 x.n, .string x.s]) (.agg #[.string y.v, .int .i64 y.k, .int .i64 y.n, .string y.s])).run Tryz.prog w = .ok (.bool !b) w := by
  have u3 := Tryz.underlying3
  have a3 := Tryz.isAgg3
  have z3 := Tryz.sizeOf3
  have uk := Tryz.underlying54
  have ak := Tryz.isAgg54
  have zk := Tryz.sizeOf54
  have us := Tryz.underlying9
  have aas := Tryz.isAgg9
  have zs := Tryz.sizeOf9
  have uv := Tryz.underlying56
  have av := Tryz.isAgg56
  have zv := Tryz.sizeOf56
  have hS : Tryz.prog.underlying 58 = some (.struct (Tryz.prog.fieldsOf 58)) := by kernel_rfl
  have hp : Tryz.prog.stoodInHeld 58 = false := by kernel_rfl
  have hS2 : Tryz.prog.underlying 56 = some (.struct (Tryz.prog.fieldsOf 56)) := by kernel_rfl
  have hp2 : Tryz.prog.stoodInHeld 56 = false := by kernel_rfl
  obtain ⟨xv, xk, xn, xs⟩ := x
  obtain ⟨yv, yk, yn, ys⟩ := y
  rw [← h]
  rw [run_neq_struct, show (10000 : Nat) = 9999 + 1 from rfl, run_equalIn_agg w 9999 58 _ _ hS hp]
  simp only [Program.fieldsOf, Tryz.underlying58]
  go_simp
  have e1 : (xv.toList = yv.toList) ↔ xv = yv := ⟨toList_inj', fun h => by rw [h]⟩
  have e2 : (xs.toList = ys.toList) ↔ xs = ys := ⟨toList_inj', fun h => by rw [h]⟩
  simp only [e1, e2]
  clear h u3 a3 z3 uk ak zk us aas zs uv av zv hS hp hS2 hp2 e1 e2
  by_cases h1 : xv = yv
  · by_cases h2 : xk = yk
    · by_cases h3 : xn = yn
      · by_cases h4 : xs = ys
        · simp [h1, h2, h3, h4]
        · simp [h1, h2, h3, h4]
      · simp [h1, h2, h3]
    · simp [h1, h2]
  · simp [h1]
set_option maxRecDepth 100000 in
/-- a value against the zero one. -/
theorem eqVal (t : TTm) (b : Bool) (h : zVal t = b) (w : World) : (binOp .eql 56 (.agg #[.int .i64 t.k, .int .i64 t.n, .string t.s]) (.agg #[.int .i64 0, .int .i64 0, .string noText])).run Tryz.prog w = .ok (.bool b) w := by
  have u3 := Tryz.underlying3
  have a3 := Tryz.isAgg3
  have z3 := Tryz.sizeOf3
  have uk := Tryz.underlying54
  have ak := Tryz.isAgg54
  have zk := Tryz.sizeOf54
  have us := Tryz.underlying9
  have aas := Tryz.isAgg9
  have zs := Tryz.sizeOf9
  have hS2 : Tryz.prog.underlying 56 = some (.struct (Tryz.prog.fieldsOf 56)) := by kernel_rfl
  have hp2 : Tryz.prog.stoodInHeld 56 = false := by kernel_rfl
  obtain ⟨xv, xk, xn, xs⟩ := t
  rw [← h]
  unfold zVal
  rw [run_eql_struct, show (10000 : Nat) = 9999 + 1 from rfl, run_equalIn_agg w 9999 56 _ _ hS2 hp2]
  simp only [Program.fieldsOf, Tryz.underlying56]
  go_simp
  have e0 : noText.toList = [] := by rw [Lib.toList_data]
  have e2 : (xs.toList = []) ↔ xs = noText := ⟨fun h => toList_inj' (h.trans e0.symm), fun h => by rw [h]; exact e0⟩
  simp only [e2]
  clear h u3 a3 z3 uk ak zk us aas zs hS2 hp2 e2 e0
  generalize noText = ys
  by_cases h2 : xk = 0
  · by_cases h3 : xn = 0
    · by_cases h4 : xs = ys
      · simp [h2, h3, h4]
      · simp [h2, h3, h4]
    · simp [h2, h3]
  · simp [h2]
set_option maxRecDepth 100000 in
theorem numbered_is (n last : Int) (b : Bool) (h : decide (1 ≤ n ∧ n ≤ last) = b) (w : World) : Calls Tryz.prog 82 #[.int .i64 n, .int .i64 last] w fun e w' => e = .returned (.bool b) ∧ w = w' := by
  rw [← h]
  clear h
  by_cases h1 : 1 ≤ n
  · by_cases h2 : n ≤ last
    · go_enter Tryz.func82, Tryz.ntmps82
      go_wp2
      go_ret
      exact ⟨by simp [h1, h2], rfl⟩
    · go_enter Tryz.func82, Tryz.ntmps82
      go_wp2
      go_ret
      exact ⟨by simp [h1, h2], rfl⟩
  · go_enter Tryz.func82, Tryz.ntmps82
    go_wp2
    go_ret
    exact ⟨by simp; omega, rfl⟩
set_option maxRecDepth 100000 in
theorem leaf_is (e : TEx) (A : Option Addr) (c : Nat) (b : Bool) (h : decide (e.kids.length = 0) = b) (w : World) : Calls Tryz.prog 110 #[exV e A c] w fun r w' => r = .returned (.bool b) ∧ Below w.heap.size w w' := by
  rw [← h]
  clear h
  unfold exV
  by_cases h1 : e.kids.length = 0
  · have h2 := beq0 h1
    have H1 := Lib.hid h1
    clear h1
    go_enter Tryz.func110, Tryz.ntmps110
    go_wp2
    go_ret
    exact ⟨by simp [H1.out], (Below.refl _ _).alloc (Nat.le_refl _) _⟩
  · have h2 := beq0_not h1
    have H1 := Lib.hid h1
    clear h1
    go_enter Tryz.func110, Tryz.ntmps110
    go_wp2
    go_ret
    exact ⟨by simp [H1.out], (Below.refl _ _).alloc (Nat.le_refl _) _⟩
set_option maxRecDepth 100000 in
theorem relation_is (s : ByteArray) (b : Bool) (w : World) (h : soleB 2 s = b) (hs : s.size ≤ 140737488351232) (hL : Lays w) : Calls Tryz.prog 101 #[.string s] w fun e w' => e = .returned (.bool b) ∧ Below w.heap.size w w' := by
  have C : Hid (Calls Tryz.prog 128 #[.string s, .int .i64 2] w fun e w' => e = .returned (.bool b) ∧ Below w.heap.size w w') := by rw [← h]; exact sole_any s 2 w hs (by omega) hL
  clear h hL
  go_enter Tryz.func101, Tryz.ntmps101
  go_wp2_with fail
  refine C.out.mono ?_
  rintro e w' ⟨rfl, hb⟩
  go_wp2_with fail
  go_ret
  exact ⟨rfl, hb⟩
set_option maxRecDepth 100000 in
theorem Variable_is (s : ByteArray) (b : Bool) (w : World) (h : soleB 3 s = b) (hs : s.size ≤ 140737488351232) (hL : Lays w) : Calls Tryz.prog 131 #[.string s] w fun e w' => e = .returned (.bool b) ∧ Below w.heap.size w w' := by
  have C : Hid (Calls Tryz.prog 128 #[.string s, .int .i64 3] w fun e w' => e = .returned (.bool b) ∧ Below w.heap.size w w') := by rw [← h]; exact sole_any s 3 w hs (by omega) hL
  clear h hL
  go_enter Tryz.func131, Tryz.ntmps131
  go_wp2_with fail
  refine C.out.mono ?_
  rintro e w' ⟨rfl, hb⟩
  go_wp2_with fail
  go_ret
  exact ⟨rfl, hb⟩
set_option maxRecDepth 100000 in
theorem columnKind_is (k : Int) (b : Bool) (h : kindB k = b) (w : World) : Calls Tryz.prog 103 #[.int .i64 k] w fun e w' => e = .returned (.bool b) ∧ w = w' := by
  rw [← h]
  clear h
  by_cases h1 : k = 1
  · subst h1
    go_enter Tryz.func103, Tryz.ntmps103
    go_wp2
    go_ret
    exact ⟨rfl, rfl⟩
  · have e1 : (k == 1) = false := by simp [h1]
    by_cases h2 : k = 2
    · subst h2
      clear h1
      go_enter Tryz.func103, Tryz.ntmps103
      go_wp2
      go_ret
      exact ⟨rfl, rfl⟩
    · have e2 : (k == 2) = false := by simp [h2]
      have H : Hid (kindB k = false) := by show _ = _; simp [kindB, h1, h2]
      clear h1 h2
      go_enter Tryz.func103, Tryz.ntmps103
      go_wp2
      go_ret
      exact ⟨ret_bool H.out.symm, rfl⟩
end Go.Proofs.YtikohamfnnlhcaaGreatDoor

set_option linter.unusedVariables false
set_option linter.unusedSimpArgs false
namespace Go.Proofs.YtikohamfnnlhcaaGreatDoor
open Go.RowKit Go.Deep Go.Shelf

theorem txt0 {s : ByteArray} (h : s.size = 0) : s.toList = [] ∧ s.toList.isEmpty = true := by
  have e := empty_of h
  subst e
  exact ⟨by rw [Lib.toList_data], by rw [Lib.toList_data]; rfl⟩
set_option maxRecDepth 100000 in
set_option maxHeartbeats 400000 in
theorem tmRight_is (t : TTm) (b : Bool) (w : World) (h : rightTm t = b) (ho : okTm t) (hL : Lays w) : Calls Tryz.prog 108 #[tmV t] w fun r w' => r = .returned (.bool b) ∧ Below w.heap.size w w' := by
  unfold tmV
  unfold rightTm at h
  have HL := Lib.hid (hL.below ((Below.refl w.heap.size w).alloc (o := .cells #[.string t.v, .int .i64 t.k, .int .i64 t.n, .string t.s] 58) (Nat.le_refl _)))
  have ho1 := ho.1
  have ho2 : t.s.size ≤ maxLen := by have := ho.2; unfold maxLen; omega
  by_cases h0 : t.v.size = 0
  · rw [if_pos h0] at h
    have hz := (txt0 h0).2
    have hz1 := (txt0 h0).1
    have C : Hid (∀ W, Calls Tryz.prog 130 #[.agg #[.int .i64 t.k, .int .i64 t.n, .string t.s]] W fun e w' => e = .returned (.bool b) ∧ Below W.heap.size W w') := fun W => by rw [← h]; exact Right_any t.k t.n t.s W ho2
    clear h h0 hL
    go_enter Tryz.func108, Tryz.ntmps108
    go_wp2_with fail
    refine (C.out _).mono ?_
    rintro e w' ⟨rfl, hb⟩
    have HB : Hid (Below w.heap.size w w') := ((Below.refl _ _).alloc (Nat.le_refl _) _).trans (hb.mono (by simp))
    clear hb
    go_wp2_with fail
    go_ret
    exact ⟨rfl, HB.out⟩
  · rw [if_neg h0] at h
    obtain ⟨hz1, hz⟩ := empty_not h0
    have hz2 : ¬ t.v.toList = [] := fun e => by rw [e] at hz; cases hz
    cases h1 : soleB 3 t.v with
    | false =>
      rw [h1] at h
      subst h
      have C := Lib.hid (Variable_is t.v false _ h1 ho1 HL.out)
      clear h1 h0 hL
      go_enter Tryz.func108, Tryz.ntmps108
      go_wp2_with fail
      refine C.out.mono ?_
      rintro e w' ⟨rfl, hb⟩
      have HB : Hid (Below w.heap.size w w') := ((Below.refl _ _).alloc (Nat.le_refl _) _).trans (hb.mono (by simp))
      clear hb
      go_wp2_with fail
      go_ret
      exact ⟨rfl, HB.out⟩
    | true =>
      rw [h1, Bool.true_and] at h
      have C := Lib.hid (Variable_is t.v true _ h1 ho1 HL.out)
      have kq := eqVal t b h
      clear h h1 h0 hL
      go_enter Tryz.func108, Tryz.ntmps108
      go_wp2_with fail
      refine C.out.mono ?_
      rintro e w' ⟨rfl, hb⟩
      have c1 := (hb.cell (p := ⟨w.heap.size, 1, none⟩) (by simp)).trans ((World.cell?_alloc_new _ _ _ _).trans rfl)
      have c2 := (hb.cell (p := ⟨w.heap.size, 2, none⟩) (by simp)).trans ((World.cell?_alloc_new _ _ _ _).trans rfl)
      have c3 := (hb.cell (p := ⟨w.heap.size, 3, none⟩) (by simp)).trans ((World.cell?_alloc_new _ _ _ _).trans rfl)
      have HB : Hid (Below w.heap.size w w') := ((Below.refl _ _).alloc (Nat.le_refl _) _).trans (hb.mono (by simp))
      clear hb
      go_wp2_with fail
      go_ret
      exact ⟨rfl, HB.out⟩
end Go.Proofs.YtikohamfnnlhcaaGreatDoor
