/- A literal's terms. Conditions: literals of at most 30,000 nodes. -/
import Derived.Test.YtlfakhjcpdkaiaaDoorTermO
import Derived.Test.YtlfakhjcpdkaiaaDoorTermJ
set_option linter.unusedVariables false
set_option linter.unusedSimpArgs false
namespace Go.Proofs.YtlfakhjcpdkaiaaDoor
open Go.RowKit Go.Deep Go.Shelf
attribute [local go_sem] Oper.semAt_some

section
variable {w W : World} {b3 : Nat} {L : List TTm} {Ds : List Nat}
theorem TsI.b3lt (h : TsI w b3 L Ds W) : b3 < W.heap.size := by
  obtain ⟨⟨v, G, h1, _⟩, _⟩ := h
  exact h1.lt
theorem TsI.foot_lt (h : TsI w b3 L Ds W) : ∀ k ∈ footL [] b3 0 W, k < W.heap.size := by
  obtain ⟨⟨v, G, h1, h2, _⟩, _⟩ := h
  intro k hk
  unfold footL at hk
  rw [h1.cell 0] at hk
  rcases h2 with ⟨rfl, _, _⟩ | ⟨g, cap, sp, rfl, _, _, _, h5, _⟩
  · simp at hk
    rw [hk]
    exact h1.lt
  · simp at hk
    rcases hk with rfl | rfl
    · exact h1.lt
    · exact h5.lt
theorem TsI.mark {D : Nat} (h : TsI w b3 L Ds W) (hD : W.heap[D]? = some (.deferred (some []))) : TsI w b3 L (D :: Ds) W :=
  ⟨h.o3, fun k hk => by
    rcases List.mem_cons.1 hk with rfl | hk
    · exact hD
    · exact h.ds k hk, h.low, h.le⟩
end
set_option maxRecDepth 100000 in
set_option maxHeartbeats 2000000 in
theorem ltTerms_any (x : TLt) (A : Option Addr) (c : Nat) (L : Option Addr) (d : Nat) (R : Option Addr) (f : Nat) (w : World) (hV : LtV w x A L R) (hsz : cntLt x ≤ 30000) :
    Calls Tryd.prog 32 #[ltV x A c L d R f] w (OwnT w 26 (termsLt x)) := by
  refine (callsIn_wide (n := 9)).1 ?_
  obtain ⟨i0, hi0, hz0, hzs, hzb⟩ := info_parts infoTm
  have hf32 : Fence.wide.fn 32 := trivial
  have hf31 : Fence.wide.fn 31 := trivial
  have hf9 : Fence.wide.fn 9 := trivial
  have hf38 : Fence.wide.fn 38 := trivial
  have hH0 := lt_box w x A c L d R f
  have HV := Lib.hid hV
  have hal : x.atom.args.length ≤ 30000 := by unfold cntLt at hsz; omega
  have hcl : cntE x.left ≤ 30000 := by unfold cntLt at hsz; omega
  have hcr : cntE x.right ≤ 30000 := by unfold cntLt at hsz; omega
  have C1 := Lib.hid (Clone_any A c x.atom.args _ _ (hV.below hH0.low).am.row (by omega) (Below.refl _ _))
  have H0 := Lib.hid hH0
  clear hV hH0
  unfold ltV
  refine callsIn_of_wp_marks Tryd.func32 rfl hf32 ?_ rfl
  simp only [Tryd.ntmps32, List.size_toArray, List.length_cons, List.length_nil, Nat.reduceAdd, Nat.reduceSub, Array.replicate_succ, Array.replicate_zero, List.push_toArray, List.append_toArray, List.nil_append, List.cons_append]
  gi_wp2_with fail
  refine (callsIn_wide.2 C1.out).mono ?_
  rintro e w1 ⟨A1, c1, rfl, ho1, hn1, hb1⟩
  obtain ⟨G1, hM1, hG1⟩ := MArr.of_own ho1
  have hb2 : Below w1.heap.size w1 (w1.alloc (.cells #[.slice A1 x.atom.args.length c1] 51)) := (Below.refl _ _).alloc (Nat.le_refl _) _
  have hI2 : TsI w w1.heap.size x.atom.args [] (w1.alloc (.cells #[.slice A1 x.atom.args.length c1] 51)) :=
    ⟨⟨_, G1, heap_alloc_new _ _, hM1.calm (Calm.of_below 0 hb2), fun g hg => ⟨fun e => by have := (hG1 g hg).2; omega, by have := (hG1 g hg).1; simp at this; omega⟩⟩, (fun _ h => by cases h), (H0.out.below hb1).low.trans (hb2.mono (H0.out.below hb1).low.size), (H0.out.below hb1).low.size⟩
  have H1 := Lib.hid (H0.out.below hb1)
  have HM1 := Lib.hid hM1
  have HG1 := Lib.hid hG1
  clear ho1 hn1 hb1 hM1 hG1
  have c4 := H1.out.own.cell 4
  have c5 := H1.out.own.cell 5
  have c6 := H1.out.own.cell 6
  have c7 := H1.out.own.cell 7
  have c8 := H1.out.own.cell 8
  have c9 := H1.out.own.cell 9
  have c10 := H1.out.own.cell 10
  have c11 := H1.out.own.cell 11
  have c12 := H1.out.own.cell 12
  have c13 := H1.out.own.cell 13
  have c14 := H1.out.own.cell 14
  have c15 := H1.out.own.cell 15
  have hq1 := H1.out.own.lt
  simp only [List.getElem?_cons_zero, List.getElem?_cons_succ] at c4 c5 c6 c7 c8 c9 c10 c11 c12 c13 c14 c15
  have ki0 : ∀ W, (Instr.index 102 (.agg #[.int .i64 x.left.op, .string x.left.t.v, .int .i64 x.left.t.k, .int .i64 x.left.t.n, .string x.left.t.s, .slice L x.left.kids.length d, .int .i64 x.right.op, .string x.right.t.v, .int .i64 x.right.t.k, .int .i64 x.right.t.n, .string x.right.t.s, .slice R x.right.kids.length f]) (.int .i64 0)).run Tryd.prog W = .ok (.agg #[.int .i64 x.left.op, .string x.left.t.v, .int .i64 x.left.t.k, .int .i64 x.left.t.n, .string x.left.t.s, .slice L x.left.kids.length d]) W := fun W => by kernel_rfl
  have ki1 : ∀ W, (Instr.index 102 (.agg #[.int .i64 x.left.op, .string x.left.t.v, .int .i64 x.left.t.k, .int .i64 x.left.t.n, .string x.left.t.s, .slice L x.left.kids.length d, .int .i64 x.right.op, .string x.right.t.v, .int .i64 x.right.t.k, .int .i64 x.right.t.n, .string x.right.t.s, .slice R x.right.kids.length f]) (.int .i64 1)).run Tryd.prog W = .ok (.agg #[.int .i64 x.right.op, .string x.right.t.v, .int .i64 x.right.t.k, .int .i64 x.right.t.n, .string x.right.t.s, .slice R x.right.kids.length f]) W := fun W => by kernel_rfl
  gi_wp2_with fail
  obtain ⟨w2, hW2⟩ : ∃ w2, w2 = w1.alloc (.cells #[.slice A1 x.atom.args.length c1] 51) := ⟨_, rfl⟩
  rw [← hW2] at hI2 ⊢
  obtain ⟨b3, hb3⟩ : ∃ b3, b3 = w1.heap.size := ⟨_, rfl⟩
  have hI2 : TsI w b3 x.atom.args [] w2 := by rw [hb3]; exact hI2
  have HI2 := Lib.hid hI2
  generalize hVa : Value.agg #[.int .i64 x.left.op, .string x.left.t.v, .int .i64 x.left.t.k, .int .i64 x.left.t.n, .string x.left.t.s, .slice L x.left.kids.length d, .int .i64 x.right.op, .string x.right.t.v, .int .i64 x.right.t.k, .int .i64 x.right.t.n, .string x.right.t.s, .slice R x.right.kids.length f] = Va at ki0 ki1 ⊢
  generalize Value.agg #[.int .i64 x.kind, .string x.atom.rel, .slice A x.atom.args.length c, .int .i64 x.op, .int .i64 x.left.op, .string x.left.t.v, .int .i64 x.left.t.k, .int .i64 x.left.t.n, .string x.left.t.s, .slice L x.left.kids.length d, .int .i64 x.right.op, .string x.right.t.v, .int .i64 x.right.t.k, .int .i64 x.right.t.n, .string x.right.t.s, .slice R x.right.kids.length f, .int .i64 x.pos] = V0
  clear hVa hI2 hb2 c4 c5 c6 c7 c8 c9 c10 c11 c12 c13 c14 c15 hq1
  rw [← hb3]
  clear hW2 hb3
  refine wpIn_loop_rounds 3 ?_
  rw [roundsIn_succ]
  gi_wp2_with fail
  have hb50 : Below w2.heap.size w2 (w2.alloc (.cells #[.int .i64 x.left.op, .string x.left.t.v, .int .i64 x.left.t.k, .int .i64 x.left.t.n, .string x.left.t.s, .slice L x.left.kids.length d] 29)) := (Below.refl _ _).alloc (Nat.le_refl _) _
  have hI50 := HI2.out.below hb50
  obtain ⟨W50, hW50⟩ : ∃ W5, W5 = w2.alloc (.cells #[.int .i64 x.left.op, .string x.left.t.v, .int .i64 x.left.t.k, .int .i64 x.left.t.n, .string x.left.t.s, .slice L x.left.kids.length d] 29) := ⟨_, rfl⟩
  rw [← hW50] at hI50 ⊢
  obtain ⟨b50, hb5e0⟩ : ∃ b5, b5 = w2.heap.size := ⟨_, rfl⟩
  rw [← hb5e0]
  clear hb50 hW50 hb5e0
  have CT0 := Lib.hid (Terms_any x.left L d W50 (HV.out.left.below hI50.low) (by omega))
  have HF0 := Lib.hid hI50.foot_lt
  have HI50 := Lib.hid hI50
  have hb30 := hI50.b3lt
  clear hI50
  refine (callsIn_wide.2 CT0.out).mono ?_
  rintro e w90 ⟨bs0, T0, tc0, rfl, hbs10, hbs20, hrow0, hT0, hb90⟩
  have HI90 := Lib.hid (HI50.out.below hb90)
  have HB90 := Lib.hid hb90
  have HBs0 := Lib.hid hbs20
  have HRow0 := Lib.hid hrow0
  have HT0 := Lib.hid hT0
  have HLn0 := Lib.hid (terms_len x.left)
  have hs90 := hb90.size
  have hl90 : w.heap.size ≤ w90.heap.size := HI90.out.low.size
  clear hbs20 hrow0 hT0 hb90 CT0
  gi_wp2_with fail
  generalize Value.agg #[.int .i64 x.left.op, .string x.left.t.v, .int .i64 x.left.t.k, .int .i64 x.left.t.n, .string x.left.t.s, .slice L x.left.kids.length d] = VL
  have hL0 : (x.atom.args).length ≤ 60000 := by omega
  generalize hTL0 : termsE x.left = TL0 at HBs0 HRow0 HT0 HLn0
  have HTL0 := Lib.hid hTL0
  clear hTL0
  refine' range_law2 (Kp := Kf [] b3 0) (Px := fun pre y _ => (pre ++ [y]) <+: TL0) (S := fun xs => xs = TL0) (Sp := fun pre => pre <+: TL0) (encs := fun y : TTm => #[tmV y]) rfl (by omega) (gf := 38) (lb := #[.pointer (some ⟨bs0, 0, none⟩)]) rfl hf38 (enters_of Tryd.func38 (by kernel_rfl) rfl)
    ?seq0 (fun h h' => h.trans h') (fun X Y hX hc => Kf.of_calm hc (by omega) (by omega)) (fun _ => rfl)
    (fun pre W => TsI w b3 (x.atom.args ++ pre) [] W) (fun _ _ _ => False) (fun pre X Y h hc => h.calm hc hl90 (fun D hD => by have := (Array.getElem?_eq_some_iff.1 (HI90.out.ds D hD)).1; exact this)) (fun _ _ _ _ h _ => h.elim)
    (fun _ _ _ _ h _ => h) (by rw [List.append_nil]; exact HI90.out) (fun y a W => ∃ Bx, w90.heap.size ≤ Bx ∧ Own W Bx 26 (tmC y) ∧ a = { tmps := #[V0, .pointer (some ⟨w.heap.size, 0, none⟩), .slice none 0 0, .pointer (some ⟨b3, 0, none⟩), undef, .pointer (some ⟨b50, 0, none⟩), .pointer (some ⟨Bx, 0, none⟩), .pointer (some ⟨w.heap.size, 1, none⟩), .pointer (some ⟨w.heap.size, 2, none⟩), .slice A x.atom.args.length c, .slice A1 x.atom.args.length c1, .pointer (some ⟨w.heap.size, 4, none⟩), VL, .pointer (some ⟨w.heap.size, 10, none⟩), .agg #[.int .i64 x.right.op, .string x.right.t.v, .int .i64 x.right.t.k, .int .i64 x.right.t.n, .string x.right.t.s, .slice R x.right.kids.length f], Va, .int .i64 0, .bool true, VL, VL, .func (.func 38) #[] #[.pointer (some ⟨bs0, 0, none⟩)], tmV y, undef, undef, undef, undef, undef, undef], defers := [] }) (fun y a X Y h hc => ?ax0) ?assign0 ?body0 ?done0 ?stop0
  case ax0 =>
    obtain ⟨Bx, h1, h2, h3⟩ := h
    exact ⟨Bx, h1, hc.own h2, h3⟩
  case stop0 =>
    rintro D cd pre W hD hpre hf hK
    exact hf.elim
  case assign0 =>
    intro l y W K hW hK
    gi_wp2
    exact hK _ _ ((Below.refl _ _).alloc (Nat.le_refl _) _) ⟨W.heap.size, hW, heap_alloc_new _ _, rfl⟩
  case seq0 =>
    intro l J Jx W hW hJ hJx hY h0
    have hbW : Below W50.heap.size W50 W := HB90.out.trans (hW.mono hs90)
    have hc0 := hbW.cell (p := ⟨b3, 0, none⟩) hb30
    exact vals_in 8 (by omega) l [] b3 0 bs0 TL0 T0 tc0 J Jx W ((hW.cell (p := ⟨bs0, 0, none⟩) (World.block_lt_of_cell? _ _ HBs0.out)).trans HBs0.out) (HRow0.out.tm (Pers.of hW)) (Nat.lt_of_lt_of_le hb30 hbW.size) (fun k hk => by
      rw [foot_same hc0] at hk
      have h1 := HF0.out k hk
      refine ⟨Nat.lt_of_lt_of_le h1 hbW.size, by omega, fun a ha => ?_⟩
      have := HT0.out a ha
      omega) hJ hJx hY h0
  case body0 =>
    rintro l pre y a W hI hpre ⟨Bx, hBx, hOx, rfl⟩
    obtain ⟨v, G, hO, ha, hG⟩ := hI.o3
    obtain ⟨A0, c0, rfl, _⟩ := ha.val
    have hpl : pre.length + 1 ≤ 30000 := by
      have h1 := hpre.length_le
      have h2 := HLn0.out
      rw [List.length_append, List.length_singleton] at h1
      omega
    have HI := Lib.hid hI
    have HO := Lib.hid hO
    have HA := Lib.hid ha
    have HGt := Lib.hid hG
    have c5 := hO.cell 0
    have q5 := hO.lt
    have x0 := hOx.cell 0
    have x1 := hOx.cell 1
    have x2 := hOx.cell 2
    have x3 := hOx.cell 3
    have xq := hOx.lt
    have HOw := Lib.hid ((ha.kept ((Kept.refl [] W).alloc (.cells #[.string y.v, .int .i64 y.k, .int .i64 y.n, .string y.s] 26)) (fun _ _ h => by cases h)).owns)
    have HNw : Hid (∀ j u, (tmC y)[j]? = some u → (W.alloc (.cells #[.string y.v, .int .i64 y.k, .int .i64 y.n, .string y.s] 26)).cell? ((⟨W.heap.size, 0, none⟩ : Addr).add j) = some u) := fun j u hj => by
      have hv : Own (W.alloc (.cells #[.string y.v, .int .i64 y.k, .int .i64 y.n, .string y.s] 26)) W.heap.size 26 (tmC y) := heap_alloc_new W _
      rw [Addr.add_lit, Nat.zero_add, hv.cell]
      exact hj
    have hll : (x.atom.args ++ pre).length + 1 ≤ 90000 := by rw [List.length_append]; omega
    have hb1 : (x.atom.args ++ pre).length + 1 ≤ maxLen := by unfold maxLen; omega
    have hb2 : ((x.atom.args ++ pre).length + 1) * 48 ≤ 140737488355328 := by omega
    have hone : ∀ u ∈ tmC y, u.oneCell' = true := by simp [Value.oneCell']
    have HAs : Hid ((x.atom.args ++ pre) ++ [y] = x.atom.args ++ (pre ++ [y])) := List.append_assoc _ _ _
    clear hpre hI hO ha hG hOx hpl
    generalize x.atom.args ++ pre = LP at *
    gi_wp2_with (gi_at_builtin; refine wpListIn_append_own_at _ rfl _ _ 51 rfl 0 26 i0 _ 4 48 Tryd.underlying51 hi0 hz0 hzs hzb rfl (by decide) (.slice A0 LP.length c0) LP.length (flatM LP) rfl HOw.out ⟨W.heap.size, 0, none⟩ 1 1 (tmC y) rfl rfl HNw.out hone hb1 hb2 (Nat.zero_le _) ?_; intro v' w1 ho hg _ hat; obtain ⟨g1, cap1, rfl⟩ := owns_val4 ho; obtain ⟨k1, hst⟩ := HI.out.step (B0 := w90.heap.size) HO.out HA.out HGt.out ho hg hat; have HST := Lib.hid hst; have h1 := k1.cell 0; have f1 := k1.frozen 0; have q3 := k1.lt; clear ho hg hat k1 hst)
    exact ⟨HST.out.1, HST.out.2.1, by have h := HST.out.2.2; rw [HAs.out] at h; exact h⟩
  case done0 =>
    rintro D0 ys W80 hD0 hys hI hK
    rw [hys] at hI
    have HI80 := Lib.hid (hI.mark hK)
    clear hI hK hys
    gi_wp2_with fail
    rw [roundsIn_succ]
    gi_wp2_with fail
    have hb51 : Below W80.heap.size W80 (W80.alloc (.cells #[.int .i64 x.right.op, .string x.right.t.v, .int .i64 x.right.t.k, .int .i64 x.right.t.n, .string x.right.t.s, .slice R x.right.kids.length f] 29)) := (Below.refl _ _).alloc (Nat.le_refl _) _
    have hI51 := HI80.out.below hb51
    obtain ⟨W51, hW51⟩ : ∃ W5, W5 = W80.alloc (.cells #[.int .i64 x.right.op, .string x.right.t.v, .int .i64 x.right.t.k, .int .i64 x.right.t.n, .string x.right.t.s, .slice R x.right.kids.length f] 29) := ⟨_, rfl⟩
    rw [← hW51] at hI51 ⊢
    obtain ⟨b51, hb5e1⟩ : ∃ b5, b5 = W80.heap.size := ⟨_, rfl⟩
    rw [← hb5e1]
    clear hb51 hW51 hb5e1
    have CT1 := Lib.hid (Terms_any x.right R f W51 (HV.out.right.below hI51.low) (by omega))
    have HF1 := Lib.hid hI51.foot_lt
    have HI51 := Lib.hid hI51
    have hb31 := hI51.b3lt
    clear hI51
    refine (callsIn_wide.2 CT1.out).mono ?_
    rintro e w91 ⟨bs1, T1, tc1, rfl, hbs11, hbs21, hrow1, hT1, hb91⟩
    have HI91 := Lib.hid (HI51.out.below hb91)
    have HB91 := Lib.hid hb91
    have HBs1 := Lib.hid hbs21
    have HRow1 := Lib.hid hrow1
    have HT1 := Lib.hid hT1
    have HLn1 := Lib.hid (terms_len x.right)
    have hs91 := hb91.size
    have hl91 : w.heap.size ≤ w91.heap.size := HI91.out.low.size
    clear hbs21 hrow1 hT1 hb91 CT1
    gi_wp2_with fail
    generalize Value.agg #[.int .i64 x.right.op, .string x.right.t.v, .int .i64 x.right.t.k, .int .i64 x.right.t.n, .string x.right.t.s, .slice R x.right.kids.length f] = VR
    have hL1 : ((x.atom.args ++ TL0)).length ≤ 60000 := by rw [List.length_append]; have := HLn0.out; omega
    generalize hTL1 : termsE x.right = TL1 at HBs1 HRow1 HT1 HLn1
    have HTL1 := Lib.hid hTL1
    clear hTL1
    refine' range_law2 (Kp := Kf [] b3 0) (Px := fun pre y _ => (pre ++ [y]) <+: TL1) (S := fun xs => xs = TL1) (Sp := fun pre => pre <+: TL1) (encs := fun y : TTm => #[tmV y]) rfl (by omega) (gf := 38) (lb := #[.pointer (some ⟨bs1, 0, none⟩)]) rfl hf38 (enters_of Tryd.func38 (by kernel_rfl) rfl)
      ?seq1 (fun h h' => h.trans h') (fun X Y hX hc => Kf.of_calm hc (by omega) (by omega)) (fun _ => rfl)
      (fun pre W => TsI w b3 ((x.atom.args ++ TL0) ++ pre) [D0] W) (fun _ _ _ => False) (fun pre X Y h hc => h.calm hc hl91 (fun D hD => by have := (Array.getElem?_eq_some_iff.1 (HI91.out.ds D hD)).1; exact this)) (fun _ _ _ _ h _ => h.elim)
      (fun _ _ _ _ h _ => h) (by rw [List.append_nil]; exact HI91.out) (fun y a W => ∃ Bx, w91.heap.size ≤ Bx ∧ Own W Bx 26 (tmC y) ∧ a = { tmps := #[V0, .pointer (some ⟨w.heap.size, 0, none⟩), .slice none 0 0, .pointer (some ⟨b3, 0, none⟩), undef, .pointer (some ⟨b51, 0, none⟩), .pointer (some ⟨Bx, 0, none⟩), .pointer (some ⟨w.heap.size, 1, none⟩), .pointer (some ⟨w.heap.size, 2, none⟩), .slice A x.atom.args.length c, .slice A1 x.atom.args.length c1, .pointer (some ⟨w.heap.size, 4, none⟩), VL, .pointer (some ⟨w.heap.size, 10, none⟩), VR, Va, .int .i64 1, .bool true, VR, VR, .func (.func 38) #[] #[.pointer (some ⟨bs1, 0, none⟩)], tmV y, undef, undef, undef, undef, .int .i64 1, undef], defers := [] }) (fun y a X Y h hc => ?ax1) ?assign1 ?body1 ?done1 ?stop1
    case ax1 =>
      obtain ⟨Bx, h1, h2, h3⟩ := h
      exact ⟨Bx, h1, hc.own h2, h3⟩
    case stop1 =>
      rintro D cd pre W hD hpre hf hK
      exact hf.elim
    case assign1 =>
      intro l y W K hW hK
      gi_wp2
      exact hK _ _ ((Below.refl _ _).alloc (Nat.le_refl _) _) ⟨W.heap.size, hW, heap_alloc_new _ _, rfl⟩
    case seq1 =>
      intro l J Jx W hW hJ hJx hY h0
      have hbW : Below W51.heap.size W51 W := HB91.out.trans (hW.mono hs91)
      have hc0 := hbW.cell (p := ⟨b3, 0, none⟩) hb31
      exact vals_in 8 (by omega) l [] b3 0 bs1 TL1 T1 tc1 J Jx W ((hW.cell (p := ⟨bs1, 0, none⟩) (World.block_lt_of_cell? _ _ HBs1.out)).trans HBs1.out) (HRow1.out.tm (Pers.of hW)) (Nat.lt_of_lt_of_le hb31 hbW.size) (fun k hk => by
        rw [foot_same hc0] at hk
        have h1 := HF1.out k hk
        refine ⟨Nat.lt_of_lt_of_le h1 hbW.size, by omega, fun a ha => ?_⟩
        have := HT1.out a ha
        omega) hJ hJx hY h0
    case body1 =>
      rintro l pre y a W hI hpre ⟨Bx, hBx, hOx, rfl⟩
      obtain ⟨v, G, hO, ha, hG⟩ := hI.o3
      obtain ⟨A0, c0, rfl, _⟩ := ha.val
      have hpl : pre.length + 1 ≤ 30000 := by
        have h1 := hpre.length_le
        have h2 := HLn1.out
        rw [List.length_append, List.length_singleton] at h1
        omega
      have HI := Lib.hid hI
      have HO := Lib.hid hO
      have HA := Lib.hid ha
      have HGt := Lib.hid hG
      have c5 := hO.cell 0
      have q5 := hO.lt
      have x0 := hOx.cell 0
      have x1 := hOx.cell 1
      have x2 := hOx.cell 2
      have x3 := hOx.cell 3
      have xq := hOx.lt
      have HOw := Lib.hid ((ha.kept ((Kept.refl [] W).alloc (.cells #[.string y.v, .int .i64 y.k, .int .i64 y.n, .string y.s] 26)) (fun _ _ h => by cases h)).owns)
      have HNw : Hid (∀ j u, (tmC y)[j]? = some u → (W.alloc (.cells #[.string y.v, .int .i64 y.k, .int .i64 y.n, .string y.s] 26)).cell? ((⟨W.heap.size, 0, none⟩ : Addr).add j) = some u) := fun j u hj => by
        have hv : Own (W.alloc (.cells #[.string y.v, .int .i64 y.k, .int .i64 y.n, .string y.s] 26)) W.heap.size 26 (tmC y) := heap_alloc_new W _
        rw [Addr.add_lit, Nat.zero_add, hv.cell]
        exact hj
      have hll : ((x.atom.args ++ TL0) ++ pre).length + 1 ≤ 90000 := by rw [List.length_append]; omega
      have hb1 : ((x.atom.args ++ TL0) ++ pre).length + 1 ≤ maxLen := by unfold maxLen; omega
      have hb2 : (((x.atom.args ++ TL0) ++ pre).length + 1) * 48 ≤ 140737488355328 := by omega
      have hone : ∀ u ∈ tmC y, u.oneCell' = true := by simp [Value.oneCell']
      have HAs : Hid (((x.atom.args ++ TL0) ++ pre) ++ [y] = (x.atom.args ++ TL0) ++ (pre ++ [y])) := List.append_assoc _ _ _
      clear hpre hI hO ha hG hOx hpl
      generalize (x.atom.args ++ TL0) ++ pre = LP at *
      gi_wp2_with (gi_at_builtin; refine wpListIn_append_own_at _ rfl _ _ 51 rfl 0 26 i0 _ 4 48 Tryd.underlying51 hi0 hz0 hzs hzb rfl (by decide) (.slice A0 LP.length c0) LP.length (flatM LP) rfl HOw.out ⟨W.heap.size, 0, none⟩ 1 1 (tmC y) rfl rfl HNw.out hone hb1 hb2 (Nat.zero_le _) ?_; intro v' w1 ho hg _ hat; obtain ⟨g1, cap1, rfl⟩ := owns_val4 ho; obtain ⟨k1, hst⟩ := HI.out.step (B0 := w91.heap.size) HO.out HA.out HGt.out ho hg hat; have HST := Lib.hid hst; have h1 := k1.cell 0; have f1 := k1.frozen 0; have q3 := k1.lt; clear ho hg hat k1 hst)
      exact ⟨HST.out.1, HST.out.2.1, by have h := HST.out.2.2; rw [HAs.out] at h; exact h⟩
    case done1 =>
      rintro D1 ys W81 hD1 hys hI hK
      rw [hys] at hI
      have HI81 := Lib.hid (hI.mark hK)
      clear hI hK hys
      gi_wp2_with fail
      rw [roundsIn_succ]
      have HIx := HI81
      obtain ⟨v, G, hO, ha, hG⟩ := HI81.out.o3
      obtain ⟨A0, c0, rfl, hn0⟩ := ha.val
      have HN0 := Lib.hid hn0
      have c5 := hO.cell 0
      have HA := Lib.hid ha
      have HGt := Lib.hid hG
      have HE : Hid ((x.atom.args ++ TL0) ++ TL1 = termsLt x) := by
        show _ = _
        rw [← HTL0.out, ← HTL1.out, List.append_assoc]
        rfl
      clear hO ha hG hn0
      gi_wp2_with fail
      have hd1 := HI81.out.ds D1 (by simp)
      have hd0 := HI81.out.ds D0 (by simp)
      have hlt0 : D0 < w91.heap.size := (Array.getElem?_eq_some_iff.1 (HI91.out.ds D0 (by simp))).1
      have hcm1 : Calm w.heap.size W81 (W81.putObj D1 (.deferred none)) := Calm.put _ hd1 rfl (by omega)
      have hd0' : (W81.putObj D1 (.deferred none)).heap[D0]? = some (.deferred (some [])) := (World.putObj_heap_other (by omega)).trans hd0
      have hcm0 : Calm w.heap.size (W81.putObj D1 (.deferred none)) ((W81.putObj D1 (.deferred none)).putObj D0 (.deferred none)) := Calm.put _ hd0' rfl (by omega)
      have hcm := hcm1.trans hcm0
      refine ⟨by simp, .inl ⟨_, _, rfl, run_takeDeferred hd1, ?_⟩⟩
      refine ⟨by simp, .inl ⟨_, _, rfl, run_takeDeferred hd0', ?_⟩⟩
      rw [← HE.out]
      exact ⟨.slice A0 ((x.atom.args ++ TL0) ++ TL1).length c0, (by simp [results, Tryd.results32, go_sem]), A0, c0, rfl, (HA.out.calm hcm).owns_at (fun g hg => (HGt.out g hg).2), HN0.out, Below.calm HI81.out.low hcm (Nat.le_refl _) (Nat.le_refl _)⟩
end Go.Proofs.YtlfakhjcpdkaiaaDoor
