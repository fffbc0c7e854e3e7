/- All, and what its iterator yields. Conditions: texts of at most 2^47 bytes; lex's two tables and strconv's variables as they are laid. -/
import Derived.Test.YtikohamfnnlhcaaGreatDoorSbC
namespace Go.Proofs.YtikohamfnnlhcaaGreatDoor
open Go.RowKit Go.Deep Go.Shelf
attribute [local go_sem] Oper.semAt_some

theorem All_any (s : ByteArray) (w : World) :
    Calls Tryz.prog 115 #[.string s] w fun e w' => e = .returned (.func (.func 134) #[] #[.pointer (some ⟨w.heap.size, 0, none⟩)]) ∧ w' = w.alloc (.cells #[.string s] 9) := by
  go_enter Tryz.func115, Tryz.ntmps115
  go_wp2
  go_ret
  exact ⟨rfl, rfl⟩

set_option maxRecDepth 100000 in
set_option maxHeartbeats 2000000 in
theorem all_in (n : Nat) (hn : 1 ≤ n) (l : Nat) (Z : List Nat) (B i n0 bs : Nat) (s : ByteArray) (J Jx : List Tk → World → Prop) (W : World) (hs : s.size ≤ maxLen) (hs2 : s.size ≤ 281474976710656)
    (hL : Lays W) (hG : Gl n0) (hbs : W.cell? ⟨bs, 0, none⟩ = some (.string s)) (hB : B < W.heap.size) (hfl : ∀ k ∈ footL Z B i W, n0 ≤ k ∧ k < W.heap.size ∧ k ≠ bs)
    (hJ : ∀ s X Y, J s X → Below X.heap.size X Y → J s Y) (hJx : ∀ s X Y, Jx s X → Below X.heap.size X Y → Jx s Y)
    (hY : ∀ pre x W1, J pre W1 → (pre ++ [x]) <+: yOf (lexA kindW 0 s.data.toList) → YieldAt Fence.wide (n - 1) Tryz.prog l #[tkV x, errT x.1] W1 fun e W' =>
      (e = .returned (.bool true) ∧ J (pre ++ [x]) W' ∧ Kf Z B i W1 W') ∨ (e = .returned (.bool false) ∧ Jx (pre ++ [x]) W'))
    (h0 : J [] W) :
    CallsIn Fence.wide n Tryz.prog 134 #[.func (.yield l) #[] #[], .pointer (some ⟨bs, 0, none⟩)] W fun e W' => (∃ v, e = .returned v) ∧
      ((∃ xs, xs = yOf (lexA kindW 0 s.data.toList) ∧ J xs W') ∨ (∃ pre, pre <+: yOf (lexA kindW 0 s.data.toList) ∧ Jx pre W')) := by
  have HY := Lib.hid hY
  have HJ := Lib.hid hJ
  have HJx := Lib.hid hJx
  have HFL := Lib.hid hfl
  have H0 := Lib.hid h0
  have HL := Lib.hid hL
  have HGl := Lib.hid hG
  have HBs := Lib.hid hbs
  have Hs := Lib.hid hs
  have HSk := Lib.hid (skip_any s 0 W hs (Nat.zero_le _))
  have hle0 := skip_le s.data.toList false
  have hln : s.data.toList.length = s.size := by simp
  rw [hln] at hle0
  rw [List.drop_zero, Nat.zero_add] at HSk
  have HE0 : Hid (yOf (lexA kindW (skipN false s.data.toList) (s.data.toList.drop (skipN false s.data.toList))) = yOf (lexA kindW 0 s.data.toList)) := by
    show _ = _
    rw [lexA_skip 0 s.data.toList (skipN false s.data.toList) (by rw [skip_twice]; rfl), Nat.zero_add]
  have HS0 := Lib.hid (skip_twice s.data.toList)
  generalize skipN false s.data.toList = o0 at HSk hle0 HE0 HS0
  generalize yOf (lexA kindW 0 s.data.toList) = Y at HY HE0 ⊢
  unfold maxLen at hs
  clear hY hJ hJx hfl h0 hL hG hln
  have hf19 : Fence.wide.fn 134 := trivial
  have hf20 : Fence.wide.fn 135 := trivial
  have hf21 : Fence.wide.fn 136 := trivial
  refine callsIn_of_wp Tryz.func134 rfl hf19 ?_ rfl
  simp only [Tryz.ntmps134, List.size_toArray, List.length_cons, List.length_nil, Nat.reduceAdd, Nat.reduceSub, Array.replicate_succ, Array.replicate_zero, List.push_toArray, List.append_toArray, List.nil_append, List.cons_append]
  gi_wp2_with fail
  refine (callsIn_wide.2 HSk.out).mono ?_
  rintro e w1 ⟨rfl, rfl⟩
  have HK0 : Hid (Kf Z B i W W) := Kf.refl _
  clear hbs HSk
  gi_wp2_with fail
  gi_loopw [3] (fun ix wr => ∃ (o : Nat) (pre : List Tk), o ≤ s.size ∧ ix = .int .i64 o ∧ Hid (pre ++ yOf (lexA kindW o (s.data.toList.drop o)) = Y) ∧ Hid (skipN false (s.data.toList.drop o) = 0) ∧ Hid (J pre wr) ∧ Hid (Kf Z B i W wr)) (fun ix _ => s.size - (intOf ix).toNat)
  case atStart => exact ⟨o0, [], hle0, rfl, HE0, HS0, H0, HK0⟩
  case round =>
    obtain ⟨o, pre, ho, rfl, HP, HS, HJr, HK⟩ := hrel
    have hnf : bs ∉ footL Z B i W := fun hm => (HFL.out _ hm).2.2 rfl
    have hb := HK.out.cell (p := ⟨bs, 0, none⟩) HBs.out hnf
    by_cases hlt : o < s.size
    · have HLr := Lib.hid (HL.out.kf HK.out (fun k hk => (HFL.out k hk).1) HGl.out)
      have HRd := Lib.hid (read_any s o wr Hs.out hs2 ho HLr.out)
      have hne : s.data.toList.drop o ≠ [] := by rw [drop_at s hlt]; simp
      have HN := Lib.hid hne
      have hbl : bs < wr.heap.size := World.block_lt_of_cell? wr _ hb
      clear hne
      gi_wp2_with fail
      refine (callsIn_wide.2 HRd.out).mono ?_
      rintro e w2 ⟨rfl, b2⟩
      have HB2 := Lib.hid b2
      have hBr : B < wr.heap.size := Nat.lt_of_lt_of_le hB HK.out.size
      have hB2 : B < w2.heap.size := Nat.lt_of_lt_of_le hBr b2.size
      have HKW2 := Lib.hid (HK.out.trans (Kf.of_below b2 hBr))
      have hb2 := (b2.cell (p := ⟨bs, 0, none⟩) hbl).trans hb
      have hbl2 : bs < w2.heap.size := World.block_lt_of_cell? w2 _ hb2
      clear b2 HRd hb
      cases ht : tokOf kindW (s.data.toList.drop o) with
      | none =>
        have HE : Hid (pre ++ [((0, [], o) : Tk)] = Y) := by
          show _ = _
          rw [← HP.out, yOf_bad HS.out HN.out ht]
        have e1 : tokV none o = tkV (0, [], o) := rfl
        simp only [e1]
        clear ht HP
        have HJ3 := Lib.hid (HJ.out _ _ (w2.alloc (.cells #[.int .i64 ((0 : Nat) : Int), .string (bts []), .int .i64 (o : Int)] 195)) HJr.out (HB2.out.trans (((Below.refl _ _).alloc (Nat.le_refl _) _).mono HB2.out.size)))
        obtain ⟨fn, tmps, assign, body, hy, hR⟩ := HY.out pre (0, [], o) _ HJ3.out (by rw [HE.out]; exact List.prefix_refl _)
        change (Instr.yield l #[.agg #[.int .i64 0, .string noText, .int .i64 (o : Int)], eno 2]).run Tryz.prog (w2.alloc (.cells #[.int .i64 0, .string noText, .int .i64 (o : Int)] 195)) = _ at hy
        have HRR := Lib.hid hR
        clear hR
        gi_wp2
        refine HRR.out.mono ?_
        rintro e w4 (⟨rfl, hJ4, hk4⟩ | ⟨rfl, hJx4⟩)
        · rw [HE.out] at hJ4
          have HJ4 := Lib.hid hJ4
          clear hJ4 hk4 hy
          gi_wp2
          refine bodyPost_ret (results_none rfl _ _ _) rfl ?_
          exact ⟨⟨_, rfl⟩, .inl ⟨_, rfl, HJ4.out⟩⟩
        · rw [HE.out] at hJx4
          have HJ4 := Lib.hid hJx4
          clear hJx4 hy
          gi_wp2
          refine bodyPost_ret (results_none rfl _ _ _) rfl ?_
          exact ⟨⟨_, rfl⟩, .inr ⟨_, List.prefix_refl _, HJ4.out⟩⟩
      | some qt =>
        obtain ⟨q, t⟩ := qt
        have hq0 := tok_kind ht
        obtain ⟨htn, htp⟩ := tok_text ht
        have htl : 0 < t.length := List.length_pos_iff.2 htn
        have htle := htp.length_le
        simp only [List.length_drop, show s.data.toList.length = s.size by simp] at htle
        have HE : Hid (pre ++ (q, t, o) :: yOf (lexA kindW (o + t.length + skipN false (s.data.toList.drop (o + t.length))) (s.data.toList.drop (o + t.length + skipN false (s.data.toList.drop (o + t.length))))) = Y) := by
          show _ = _
          rw [← HP.out, yOf_tok HS.out HN.out ht, List.drop_drop, List.drop_drop, Nat.add_assoc]
        have HSk2 := Lib.hid (fun W => skip_any s (o + t.length) W Hs.out (by omega))
        rw [Int.natCast_add o t.length] at HSk2
        have HS2 := Lib.hid (skip_twice (s.data.toList.drop (o + t.length)))
        rw [List.drop_drop] at HS2
        have hle2 := skip_le (s.data.toList.drop (o + t.length)) false
        simp only [List.length_drop, show s.data.toList.length = s.size by simp] at hle2
        generalize skipN false (s.data.toList.drop (o + t.length)) = k2 at HE HSk2 HS2 hle2
        have HEp : Hid (pre ++ [((q, t, o) : Tk)] <+: Y) := by
          show _ <+: _
          rw [← HE.out]
          exact ⟨_, by rw [List.append_assoc]; rfl⟩
        have e1 : tokV (some (q, t)) o = .agg #[.int .i64 (q : Int), .string (bts t), .int .i64 (o : Int)] := rfl
        simp only [e1]
        have hqz : ((q : Int) == 0) = false := by simp only [beq_eq_false_iff_ne]; omega
        have heq : errT q = .nilIface := by unfold errT; rw [if_neg hq0]
        have hsz : (bts t).size = t.length := bts_size t
        have HO3 : Hid (Own (w2.alloc (.cells #[.int .i64 (q : Int), .string (bts t), .int .i64 (o : Int)] 195)) w2.heap.size 195 [.int .i64 (q : Int), .string (bts t), .int .i64 (o : Int)]) := heap_alloc_new _ _
        clear ht HP htp htn hq0
        have hb3 : Below w2.heap.size w2 (w2.alloc (.cells #[.int .i64 (q : Int), .string (bts t), .int .i64 (o : Int)] 195)) := (Below.refl _ _).alloc (Nat.le_refl _) _
        have HJ3 := Lib.hid (HJ.out _ _ _ HJr.out (HB2.out.trans (hb3.mono HB2.out.size)))
        have HKW3 := Lib.hid (HKW2.out.trans (Kf.of_below hb3 hB2))
        have HF3 : Hid (w2.heap.size ∉ footL Z B i (w2.alloc (.cells #[.int .i64 (q : Int), .string (bts t), .int .i64 (o : Int)] 195))) := fun hm => by
          rw [foot_same (hb3.cell (p := ⟨B, i, none⟩) hB2)] at hm
          have := HKW2.out.lt (fun k hk => (HFL.out k hk).2.1) _ hm
          omega
        obtain ⟨fn, tmps, assign, body, hy, hR⟩ := HY.out pre (q, t, o) _ HJ3.out HEp.out
        simp only [heq] at hy
        change (Instr.yield l #[.agg #[.int .i64 (q : Int), .string (bts t), .int .i64 (o : Int)], .nilIface]).run Tryz.prog (w2.alloc (.cells #[.int .i64 (q : Int), .string (bts t), .int .i64 (o : Int)] 195)) = _ at hy
        have HRR := Lib.hid hR
        obtain ⟨T, hT⟩ : ∃ T, T = bts t := ⟨_, rfl⟩
        rw [← hT] at hy hsz HO3 HRR HJ3 HKW3 HF3 ⊢
        clear hR hb3 heq hT
        gi_wp2
        refine HRR.out.mono ?_
        rintro e w4 (⟨rfl, hJ4, hk4⟩ | ⟨rfl, hJx4⟩)
        · have HJ4 := Lib.hid hJ4
          have HK4 := Lib.hid (HKW3.out.trans hk4)
          have O4 := Lib.hid (hk4.own HO3.out HF3.out)
          have c0 := O4.out.cell 0
          have c1 := O4.out.cell 1
          have c2 := O4.out.cell 2
          have q4 := O4.out.lt
          have hb4 := HK4.out.cell (p := ⟨bs, 0, none⟩) HBs.out hnf
          have hbl4 := World.block_lt_of_cell? w4 _ hb4
          clear hJ4 hk4 hy HRR HO3 HF3
          gi_wp2_with fail
          refine (callsIn_wide.2 (HSk2.out _)).mono ?_
          rintro e w5 ⟨rfl, rfl⟩
          gi_wp2
          go_roundw
          case rel => exact ⟨o + t.length + k2, _, by omega, rfl, by show _ = _; rw [List.append_assoc]; exact HE.out, HS2.out, HJ4.out, HK4.out⟩
          case measure => simp [intOf]; omega
        · have HJ4 := Lib.hid hJx4
          clear hJx4 hy
          gi_wp2
          refine bodyPost_ret (results_none rfl _ _ _) rfl ?_
          exact ⟨⟨_, rfl⟩, .inr ⟨_, HEp.out, HJ4.out⟩⟩
    · have HE : Hid (pre = Y) := by
        show _ = _
        rw [← HP.out, yOf_end _ _ (List.drop_eq_nil_of_le (by simp; omega)), List.append_nil]
      clear HP
      gi_wp2
      go_end0
      exact ⟨⟨_, rfl⟩, .inl ⟨_, HE.out, HJr.out⟩⟩
end Go.Proofs.YtikohamfnnlhcaaGreatDoor
