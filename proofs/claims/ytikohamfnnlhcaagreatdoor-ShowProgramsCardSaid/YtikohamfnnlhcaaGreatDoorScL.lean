/- All, and what its iterator yields. Conditions: texts of at most 2^47 bytes; lex's two tables and strconv's variables as they are laid. A range over a function whose loop variables lie in boxes of their own: the law. Conditions: none. Slices of tokens that a call makes: what is known of them; one token more. Conditions: none. List: all tokens of a text, or where there is none. Conditions: lex's two tables and strconv's variables as they are laid. -/
import Derived.Test.YtikohamfnnlhcaaGreatDoorScC
import Derived.Maps.OwnIn
import Derived.Maps.AppendAt
import Derived.RegionIn
namespace Go.Proofs.YtikohamfnnlhcaaGreatDoor
open Go.RowKit Go.Deep Go.Shelf
attribute [local go_sem] Oper.semAt_some

theorem All_any (s : ByteArray) (w : World) :
    Calls Tryz.prog 115 #[.string s] w fun e w' => e = .returned (.func (.func 134) #[] #[.pointer (some ⟨w.heap.size, 0, none⟩)]) ∧ w' = w.alloc (.cells #[.string s] 9) := by
  go_enter Tryz.func115, Tryz.ntmps115
  go_wp2
  go_ret
  exact ⟨rfl, rfl⟩

set_option maxRecDepth 100000 in
set_option maxHeartbeats 2000000 in
theorem all_in (n : Nat) (hn : 1 ≤ n) (l : Nat) (Z : List Nat) (B i n0 bs : Nat) (s : ByteArray) (J Jx : List Tk → World → Prop) (W : World) (hs : s.size ≤ maxLen) (hs2 : s.size ≤ 281474976710656)
    (hL : Lays W) (hG : Gl n0) (hbs : W.cell? ⟨bs, 0, none⟩ = some (.string s)) (hB : B < W.heap.size) (hfl : ∀ k ∈ footL Z B i W, n0 ≤ k ∧ k < W.heap.size ∧ k ≠ bs)
    (hJ : ∀ s X Y, J s X → Below X.heap.size X Y → J s Y) (hJx : ∀ s X Y, Jx s X → Below X.heap.size X Y → Jx s Y)
    (hY : ∀ pre x W1, J pre W1 → (pre ++ [x]) <+: yOf (lexA kindW 0 s.data.toList) → YieldAt Fence.wide (n - 1) Tryz.prog l #[tkV x, errT x.1] W1 fun e W' =>
      (e = .returned (.bool true) ∧ J (pre ++ [x]) W' ∧ Kf Z B i W1 W') ∨ (e = .returned (.bool false) ∧ Jx (pre ++ [x]) W'))
    (h0 : J [] W) :
    CallsIn Fence.wide n Tryz.prog 134 #[.func (.yield l) #[] #[], .pointer (some ⟨bs, 0, none⟩)] W fun e W' => (∃ v, e = .returned v) ∧
      ((∃ xs, xs = yOf (lexA kindW 0 s.data.toList) ∧ J xs W') ∨ (∃ pre, pre <+: yOf (lexA kindW 0 s.data.toList) ∧ Jx pre W')) := by
  have HY := Lib.hid hY
  have HJ := Lib.hid hJ
  have HJx := Lib.hid hJx
  have HFL := Lib.hid hfl
  have H0 := Lib.hid h0
  have HL := Lib.hid hL
  have HGl := Lib.hid hG
  have HBs := Lib.hid hbs
  have Hs := Lib.hid hs
  have HSk := Lib.hid (skip_any s 0 W hs (Nat.zero_le _))
  have hle0 := skip_le s.data.toList false
  have hln : s.data.toList.length = s.size := by simp
  rw [hln] at hle0
  rw [List.drop_zero, Nat.zero_add] at HSk
  have HE0 : Hid (yOf (lexA kindW (skipN false s.data.toList) (s.data.toList.drop (skipN false s.data.toList))) = yOf (lexA kindW 0 s.data.toList)) := by
    show _ = _
    rw [lexA_skip 0 s.data.toList (skipN false s.data.toList) (by rw [skip_twice]; rfl), Nat.zero_add]
  have HS0 := Lib.hid (skip_twice s.data.toList)
  generalize skipN false s.data.toList = o0 at HSk hle0 HE0 HS0
  generalize yOf (lexA kindW 0 s.data.toList) = Y at HY HE0 ⊢
  unfold maxLen at hs
  clear hY hJ hJx hfl h0 hL hG hln
  have hf19 : Fence.wide.fn 134 := trivial
  have hf20 : Fence.wide.fn 135 := trivial
  have hf21 : Fence.wide.fn 136 := trivial
  refine callsIn_of_wp Tryz.func134 rfl hf19 ?_ rfl
  simp only [Tryz.ntmps134, List.size_toArray, List.length_cons, List.length_nil, Nat.reduceAdd, Nat.reduceSub, Array.replicate_succ, Array.replicate_zero, List.push_toArray, List.append_toArray, List.nil_append, List.cons_append]
  gi_wp2_with fail
  refine (callsIn_wide.2 HSk.out).mono ?_
  rintro e w1 ⟨rfl, rfl⟩
  have HK0 : Hid (Kf Z B i W W) := Kf.refl _
  clear hbs HSk
  gi_wp2_with fail
  gi_loopw [3] (fun ix wr => ∃ (o : Nat) (pre : List Tk), o ≤ s.size ∧ ix = .int .i64 o ∧ Hid (pre ++ yOf (lexA kindW o (s.data.toList.drop o)) = Y) ∧ Hid (skipN false (s.data.toList.drop o) = 0) ∧ Hid (J pre wr) ∧ Hid (Kf Z B i W wr)) (fun ix _ => s.size - (intOf ix).toNat)
  case atStart => exact ⟨o0, [], hle0, rfl, HE0, HS0, H0, HK0⟩
  case round =>
    obtain ⟨o, pre, ho, rfl, HP, HS, HJr, HK⟩ := hrel
    have hnf : bs ∉ footL Z B i W := fun hm => (HFL.out _ hm).2.2 rfl
    have hb := HK.out.cell (p := ⟨bs, 0, none⟩) HBs.out hnf
    by_cases hlt : o < s.size
    · have HLr := Lib.hid (HL.out.kf HK.out (fun k hk => (HFL.out k hk).1) HGl.out)
      have HRd := Lib.hid (read_any s o wr Hs.out hs2 ho HLr.out)
      have hne : s.data.toList.drop o ≠ [] := by rw [drop_at s hlt]; simp
      have HN := Lib.hid hne
      have hbl : bs < wr.heap.size := World.block_lt_of_cell? wr _ hb
      clear hne
      gi_wp2_with fail
      refine (callsIn_wide.2 HRd.out).mono ?_
      rintro e w2 ⟨rfl, b2⟩
      have HB2 := Lib.hid b2
      have hBr : B < wr.heap.size := Nat.lt_of_lt_of_le hB HK.out.size
      have hB2 : B < w2.heap.size := Nat.lt_of_lt_of_le hBr b2.size
      have HKW2 := Lib.hid (HK.out.trans (Kf.of_below b2 hBr))
      have hb2 := (b2.cell (p := ⟨bs, 0, none⟩) hbl).trans hb
      have hbl2 : bs < w2.heap.size := World.block_lt_of_cell? w2 _ hb2
      clear b2 HRd hb
      cases ht : tokOf kindW (s.data.toList.drop o) with
      | none =>
        have HE : Hid (pre ++ [((0, [], o) : Tk)] = Y) := by
          show _ = _
          rw [← HP.out, yOf_bad HS.out HN.out ht]
        have e1 : tokV none o = tkV (0, [], o) := rfl
        simp only [e1]
        clear ht HP
        have HJ3 := Lib.hid (HJ.out _ _ (w2.alloc (.cells #[.int .i64 ((0 : Nat) : Int), .string (bts []), .int .i64 (o : Int)] 195)) HJr.out (HB2.out.trans (((Below.refl _ _).alloc (Nat.le_refl _) _).mono HB2.out.size)))
        obtain ⟨fn, tmps, assign, body, hy, hR⟩ := HY.out pre (0, [], o) _ HJ3.out (by rw [HE.out]; exact List.prefix_refl _)
        change (Instr.yield l #[.agg #[.int .i64 0, .string noText, .int .i64 (o : Int)], eno 2]).run Tryz.prog (w2.alloc (.cells #[.int .i64 0, .string noText, .int .i64 (o : Int)] 195)) = _ at hy
        have HRR := Lib.hid hR
        clear hR
        gi_wp2
        refine HRR.out.mono ?_
        rintro e w4 (⟨rfl, hJ4, hk4⟩ | ⟨rfl, hJx4⟩)
        · rw [HE.out] at hJ4
          have HJ4 := Lib.hid hJ4
          clear hJ4 hk4 hy
          gi_wp2
          refine bodyPost_ret (results_none rfl _ _ _) rfl ?_
          exact ⟨⟨_, rfl⟩, .inl ⟨_, rfl, HJ4.out⟩⟩
        · rw [HE.out] at hJx4
          have HJ4 := Lib.hid hJx4
          clear hJx4 hy
          gi_wp2
          refine bodyPost_ret (results_none rfl _ _ _) rfl ?_
          exact ⟨⟨_, rfl⟩, .inr ⟨_, List.prefix_refl _, HJ4.out⟩⟩
      | some qt =>
        obtain ⟨q, t⟩ := qt
        have hq0 := tok_kind ht
        obtain ⟨htn, htp⟩ := tok_text ht
        have htl : 0 < t.length := List.length_pos_iff.2 htn
        have htle := htp.length_le
        simp only [List.length_drop, show s.data.toList.length = s.size by simp] at htle
        have HE : Hid (pre ++ (q, t, o) :: yOf (lexA kindW (o + t.length + skipN false (s.data.toList.drop (o + t.length))) (s.data.toList.drop (o + t.length + skipN false (s.data.toList.drop (o + t.length))))) = Y) := by
          show _ = _
          rw [← HP.out, yOf_tok HS.out HN.out ht, List.drop_drop, List.drop_drop, Nat.add_assoc]
        have HSk2 := Lib.hid (fun W => skip_any s (o + t.length) W Hs.out (by omega))
        rw [Int.natCast_add o t.length] at HSk2
        have HS2 := Lib.hid (skip_twice (s.data.toList.drop (o + t.length)))
        rw [List.drop_drop] at HS2
        have hle2 := skip_le (s.data.toList.drop (o + t.length)) false
        simp only [List.length_drop, show s.data.toList.length = s.size by simp] at hle2
        generalize skipN false (s.data.toList.drop (o + t.length)) = k2 at HE HSk2 HS2 hle2
        have HEp : Hid (pre ++ [((q, t, o) : Tk)] <+: Y) := by
          show _ <+: _
          rw [← HE.out]
          exact ⟨_, by rw [List.append_assoc]; rfl⟩
        have e1 : tokV (some (q, t)) o = .agg #[.int .i64 (q : Int), .string (bts t), .int .i64 (o : Int)] := rfl
        simp only [e1]
        have hqz : ((q : Int) == 0) = false := by simp only [beq_eq_false_iff_ne]; omega
        have heq : errT q = .nilIface := by unfold errT; rw [if_neg hq0]
        have hsz : (bts t).size = t.length := bts_size t
        have HO3 : Hid (Own (w2.alloc (.cells #[.int .i64 (q : Int), .string (bts t), .int .i64 (o : Int)] 195)) w2.heap.size 195 [.int .i64 (q : Int), .string (bts t), .int .i64 (o : Int)]) := heap_alloc_new _ _
        clear ht HP htp htn hq0
        have hb3 : Below w2.heap.size w2 (w2.alloc (.cells #[.int .i64 (q : Int), .string (bts t), .int .i64 (o : Int)] 195)) := (Below.refl _ _).alloc (Nat.le_refl _) _
        have HJ3 := Lib.hid (HJ.out _ _ _ HJr.out (HB2.out.trans (hb3.mono HB2.out.size)))
        have HKW3 := Lib.hid (HKW2.out.trans (Kf.of_below hb3 hB2))
        have HF3 : Hid (w2.heap.size ∉ footL Z B i (w2.alloc (.cells #[.int .i64 (q : Int), .string (bts t), .int .i64 (o : Int)] 195))) := fun hm => by
          rw [foot_same (hb3.cell (p := ⟨B, i, none⟩) hB2)] at hm
          have := HKW2.out.lt (fun k hk => (HFL.out k hk).2.1) _ hm
          omega
        obtain ⟨fn, tmps, assign, body, hy, hR⟩ := HY.out pre (q, t, o) _ HJ3.out HEp.out
        simp only [heq] at hy
        change (Instr.yield l #[.agg #[.int .i64 (q : Int), .string (bts t), .int .i64 (o : Int)], .nilIface]).run Tryz.prog (w2.alloc (.cells #[.int .i64 (q : Int), .string (bts t), .int .i64 (o : Int)] 195)) = _ at hy
        have HRR := Lib.hid hR
        obtain ⟨T, hT⟩ : ∃ T, T = bts t := ⟨_, rfl⟩
        rw [← hT] at hy hsz HO3 HRR HJ3 HKW3 HF3 ⊢
        clear hR hb3 heq hT
        gi_wp2
        refine HRR.out.mono ?_
        rintro e w4 (⟨rfl, hJ4, hk4⟩ | ⟨rfl, hJx4⟩)
        · have HJ4 := Lib.hid hJ4
          have HK4 := Lib.hid (HKW3.out.trans hk4)
          have O4 := Lib.hid (hk4.own HO3.out HF3.out)
          have c0 := O4.out.cell 0
          have c1 := O4.out.cell 1
          have c2 := O4.out.cell 2
          have q4 := O4.out.lt
          have hb4 := HK4.out.cell (p := ⟨bs, 0, none⟩) HBs.out hnf
          have hbl4 := World.block_lt_of_cell? w4 _ hb4
          clear hJ4 hk4 hy HRR HO3 HF3
          gi_wp2_with fail
          refine (callsIn_wide.2 (HSk2.out _)).mono ?_
          rintro e w5 ⟨rfl, rfl⟩
          gi_wp2
          go_roundw
          case rel => exact ⟨o + t.length + k2, _, by omega, rfl, by show _ = _; rw [List.append_assoc]; exact HE.out, HS2.out, HJ4.out, HK4.out⟩
          case measure => simp [intOf]; omega
        · have HJ4 := Lib.hid hJx4
          clear hJx4 hy
          gi_wp2
          refine bodyPost_ret (results_none rfl _ _ _) rfl ?_
          exact ⟨⟨_, rfl⟩, .inr ⟨_, HEp.out, HJ4.out⟩⟩
    · have HE : Hid (pre = Y) := by
        show _ = _
        rw [← HP.out, yOf_end _ _ (List.drop_eq_nil_of_le (by simp; omega)), List.append_nil]
      clear HP
      gi_wp2
      go_end0
      exact ⟨⟨_, rfl⟩, .inl ⟨_, HE.out, HJr.out⟩⟩
end Go.Proofs.YtikohamfnnlhcaaGreatDoor

namespace Go.Proofs.YtikohamfnnlhcaaGreatDoor
open Go.RowKit Go.Deep

section
variable {F : Fence} {n : Nat} {P : Program}
theorem range_law2 {α : Type} {g : Operand} {ps : Array Tmp} {assign body : Code} {Q : Exit → Act → World → Prop} {a : Act} {w : World}
    (hro : F.round = none) (h1 : 1 ≤ n) {gf : Nat} {lb : Array Value} (hg : a.eval g = .func (.func gf) #[] lb) (hFg : F.fn gf) (eg : ∀ args w, (callFunc gf args).run P w = .ok (.enter gf args) w)
    {encs : α → Array Value} {Kp : World → World → Prop} {Px : List α → α → World → Prop} {S Sp : List α → Prop}
    (hseq : ∀ (l : Nat) (J Jx : List α → World → Prop) (W : World), Below w.heap.size w W → (∀ s X Y, J s X → Below X.heap.size X Y → J s Y) → (∀ s X Y, Jx s X → Below X.heap.size X Y → Jx s Y) →
      (∀ pre x W1, J pre W1 → Px pre x W1 → YieldAt F (n - 1 - 1) P l (encs x) W1 fun e W' => (e = .returned (.bool true) ∧ J (pre ++ [x]) W' ∧ Kp W1 W') ∨ (e = .returned (.bool false) ∧ Jx (pre ++ [x]) W')) →
      J [] W → CallsIn F (n - 1) P gf (#[.func (.yield l) #[] #[]] ++ lb) W fun e W' => (∃ v, e = .returned v) ∧ ((∃ xs, S xs ∧ J xs W') ∨ (∃ pre, Sp pre ∧ Jx pre W')))
    (hKt : ∀ {X Y Z : World}, Kp X Y → Kp Y Z → Kp X Z) (hKc : ∀ X Y, w.heap.size ≤ X.heap.size → Calm w.heap.size X Y → Kp X Y) (hps : ∀ x, (encs x).size = ps.size)
    (I : List α → World → Prop) (Ix : Code → List α → World → Prop) (hI : ∀ s X Y, I s X → Calm w.heap.size X Y → I s Y) (hIx : ∀ c s X Y, Ix c s X → Calm w.heap.size X Y → Ix c s Y)
    (hPx : ∀ pre x X Y, Px pre x X → Calm w.heap.size X Y → Px pre x Y) (h0 : I [] w) (Ax : α → Act → World → Prop) (hAx : ∀ x a X Y, Ax x a X → Calm w.heap.size X Y → Ax x a Y)
    (hassign : ∀ (l : Nat) (x : α) (W : World) (K : Act → World → Prop), w.heap.size ≤ W.heap.size → (∀ a W', Below W.heap.size W W' → Ax x a W' → K a W') →
      assign.wpIn (F.inRound l) (n - 1 - 1) P (Exit.then K (fun _ _ _ => False)) { tmps := (ps.zip (encs x)).foldl (fun t (p, v) => t.setIfInBounds p v) a.tmps, defers := [] } W)
    (hbody : ∀ (l : Nat) (pre : List α) (x : α) (a' : Act) (W : World), I pre W → Px pre x W → Ax x a' W → body.wpIn (F.inRound l) (n - 1 - 1) P (ownPostG w.heap.size Kp I Ix (pre ++ [x]) W) a' W)
    (hdone : ∀ (D : Nat) (xs : List α) (W : World), w.heap.size ≤ D → S xs → I xs W → W.heap[D]? = some (.deferred (some [])) → Q .normal { a with defers := { target := .collected D, args := #[] } :: a.defers } W)
    (hstop : ∀ (D : Nat) (c : Code) (pre : List α) (W : World), w.heap.size ≤ D → Sp pre → Ix c pre W → W.heap[D]? = some (.deferred (some [])) → c.wpIn F n P Q { a with defers := { target := .collected D, args := #[] } :: a.defers } W) :
    (Code.rangeFunc g ps assign body).wpIn F n P Q a w := by
  refine wpIn_rangeFunc ?_
  intro fn hfn
  rw [hro]
  obtain ⟨rec, hrec⟩ : ∃ rec : LoopState → Option Code → Loop, rec = fun st pe => { state := st, pending := pe, fn, tmps := a.tmps, params := ps, assign, body, defers := w.heap.size } := ⟨_, rfl⟩
  obtain ⟨W1, hW1⟩ : ∃ W1, (w.alloc (.deferred (some []))).alloc (.loop (rec .ready none)) = W1 := ⟨_, rfl⟩
  have hL1 : W1.heap[w.heap.size + 1]? = some (.loop (rec .ready none)) := by
    rw [← hW1]; have := World.alloc_heap_new (w.alloc (.deferred (some []))) (.loop (rec .ready none)); rwa [World.size_alloc] at this
  have hK1 : W1.heap[w.heap.size]? = some (.deferred (some [])) := by
    rw [← hW1]; exact (Below.heap_alloc _ _ _ (by simp)).trans (World.alloc_heap_new w _)
  have hI1 : I [] W1 := by rw [← hW1]; exact hI _ _ _ (hI _ _ _ h0 (Calm.alloc _ _ _)) (Calm.alloc _ _ _)
  have hb1 : Below w.heap.size w W1 := by
    rw [← hW1]; exact ((Below.refl _ w).alloc (Nat.le_refl _) _).alloc (by simp) _
  have hold : ∀ {X Y : World} {k : Nat} {o : Obj}, X.heap[k]? = some o → Below X.heap.size X Y → Y.heap[k]? = some o := fun hk hb => (hb.block _ (Array.getElem?_eq_some_iff.1 hk).1).trans hk
  refine ⟨w.heap.size + 1, [{ target := .collected w.heap.size, args := #[] }], W1, { target := .fn (.func gf) lb, args := #[.func (.yield (w.heap.size + 1)) #[] #[]] }, W1, gf,
    #[.func (.yield (w.heap.size + 1)) #[] #[]] ++ lb, W1, ?_, ?_, ?_, ?_, fun _ => h1, ?_⟩
  · rw [← hW1, hrec]; exact run_enterLoop_outer _ _ _ _ _
  · simp only [resolve, hg]
    simp [go_sem]
  · intro f' hf'; simp [Target.leads] at hf'; subst hf'; exact hFg
  · simp [invoke, go_sem, eg]
  · refine (hseq (w.heap.size + 1)
      (fun pre W => I pre W ∧ W.heap[w.heap.size + 1]? = some (.loop (rec .ready none)) ∧ W.heap[w.heap.size]? = some (.deferred (some [])))
      (fun pre W => ∃ c, Ix c pre W ∧ W.heap[w.heap.size + 1]? = some (.loop (rec .done (some c))) ∧ W.heap[w.heap.size]? = some (.deferred (some [])))
      W1 hb1
      (fun s X Y hs hb => ⟨hI s X Y hs.1 (Calm.of_below _ hb), hold hs.2.1 hb, hold hs.2.2 hb⟩)
      (fun s X Y hs hb => by
        obtain ⟨c, hc, hl, hk⟩ := hs
        exact ⟨c, hIx c s X Y hc (Calm.of_below _ hb), hold hl hb, hold hk hb⟩)
      ?_ ⟨hI1, hL1, hK1⟩).mono ?_
    · rintro pre x W ⟨hi, hl, hk⟩ hpx
      have hlt : w.heap.size + 1 < W.heap.size := (Array.getElem?_eq_some_iff.1 hl).1
      have hy := run_yield (P := P) (args := encs x) hl (by rw [hrec]; exact hps x)
      rw [hrec] at hy
      refine ⟨fn, _, assign, body, hy, roundIn_of_wpIn hfn (hassign _ x W _ (by omega) ?_)⟩
      clear hy
      intro a' Wa hbW hax
      have hca := Calm.of_below w.heap.size hbW
      have hlo := hl
      have hl := hold hlo hbW
      have hk := hold hk hbW
      have hi := hI _ _ _ hi hca
      have hpx := hPx _ _ _ _ hpx hca
      have hlt : w.heap.size + 1 < Wa.heap.size := (Array.getElem?_eq_some_iff.1 hl).1
      have hKa : Kp W Wa := hKc _ _ (by omega) hca
      refine ⟨_, run_beginRound hl (by rw [hrec]), ?_⟩
      have hl2 : (Wa.putObj (w.heap.size + 1) (.loop { rec .ready none with state := .busy })).heap[w.heap.size + 1]? = some (.loop { rec .ready none with state := .busy }) := World.putObj_heap_same hlt
      have hk2 : (Wa.putObj (w.heap.size + 1) (.loop { rec .ready none with state := .busy })).heap[w.heap.size]? = some (.deferred (some [])) := (World.putObj_heap_other (by omega)).trans hk
      have hc2 : Calm w.heap.size Wa (Wa.putObj (w.heap.size + 1) (.loop { rec .ready none with state := .busy })) := Calm.put _ hl rfl (by omega)
      refine wpIn_mono (hbody _ pre x a' _ (hI _ _ _ hi hc2) (hPx _ _ _ _ hpx hc2) (hAx _ _ _ _ hax hc2)) ?_
      have fin : ∀ (jump : Option Code) (W3 : World), KeepsFrom w.heap.size (Wa.putObj (w.heap.size + 1) (.loop { rec .ready none with state := .busy })) W3 →
          (Instr.endRound (w.heap.size + 1) jump).run P W3 = .ok (.bool jump.isNone) (W3.putObj (w.heap.size + 1) (.loop (rec (if jump.isNone then .ready else .done) jump))) ∧
          W3.heap[w.heap.size + 1]? = some (.loop { rec .ready none with state := .busy }) ∧
          (W3.putObj (w.heap.size + 1) (.loop (rec (if jump.isNone then .ready else .done) jump))).heap[w.heap.size + 1]? = some (.loop (rec (if jump.isNone then .ready else .done) jump)) ∧
          (W3.putObj (w.heap.size + 1) (.loop (rec (if jump.isNone then .ready else .done) jump))).heap[w.heap.size]? = some (.deferred (some [])) := fun jump W3 hk3 => by
        have hl3 := hk3.same _ _ (by omega) hl2 rfl
        have := run_endRound (P := P) jump hl3
        rw [hrec] at this ⊢
        exact ⟨this, by rw [hrec] at hl3; exact hl3, World.putObj_heap_same (Array.getElem?_eq_some_iff.1 hl3).1, (World.putObj_heap_other (by omega)).trans (hk3.same _ _ (Nat.le_refl _) hk2 rfl)⟩
      rintro e a3 W3 hp
      cases e with
      | normal =>
        obtain ⟨hk3, hkp3, hi3⟩ := hp
        obtain ⟨hr, hl3, hl4, hk4⟩ := fin none W3 hk3
        have hc4 : Calm w.heap.size W3 (W3.putObj (w.heap.size + 1) (.loop (rec (if (none : Option Code).isNone then .ready else .done) none))) := Calm.put _ hl3 rfl (by omega)
        exact ⟨_, _, hr, .inl ⟨rfl, ⟨hI _ _ _ hi3 hc4, hl4, hk4⟩, hKt (hKt (hKt hKa (hKc _ _ (by omega) hc2)) hkp3) (hKc _ _ (by have := hk3.size; simp at this; omega) hc4)⟩⟩
      | ret =>
        obtain ⟨hk3, hi3⟩ := hp
        obtain ⟨hr, hl3, hl4, hk4⟩ := fin (some .ret) W3 hk3
        exact ⟨_, _, hr, .inr ⟨rfl, .ret, hIx _ _ _ _ hi3 (Calm.put _ hl3 rfl (by omega)), hl4, hk4⟩⟩
      | exit id =>
        obtain ⟨hk3, hi3⟩ := hp
        obtain ⟨hr, hl3, hl4, hk4⟩ := fin (some (.exit id)) W3 hk3
        exact ⟨_, _, hr, .inr ⟨rfl, .exit id, hIx _ _ _ _ hi3 (Calm.put _ hl3 rfl (by omega)), hl4, hk4⟩⟩
      | goto t =>
        obtain ⟨hk3, hi3⟩ := hp
        obtain ⟨hr, hl3, hl4, hk4⟩ := fin (some (.goto t)) W3 hk3
        exact ⟨_, _, hr, .inr ⟨rfl, .goto t, hIx _ _ _ _ hi3 (Calm.put _ hl3 rfl (by omega)), hl4, hk4⟩⟩
      | panic ch => exact hp.elim
      | outgrown => exact hp.elim
    · rintro e W2 ⟨⟨v, rfl⟩, (⟨xs, hS, hi, hl, hk⟩ | ⟨pre, hSp, c, hi, hl, hk⟩)⟩
      · exact ⟨none, _, by have := run_endLoop (P := P) hl (by rw [hrec]; simp); rw [hrec] at this; exact this, hdone _ xs _ (Nat.le_refl _) hS (hI _ _ _ hi (Calm.put _ hl rfl (by omega))) ((World.putObj_heap_other (by omega)).trans hk)⟩
      · exact ⟨some c, _, by have := run_endLoop (P := P) hl (by rw [hrec]; simp); rw [hrec] at this; exact this, hstop _ c pre _ (Nat.le_refl _) hSp (hIx c _ _ _ hi (Calm.put _ hl rfl (by omega))) ((World.putObj_heap_other (by omega)).trans hk)⟩
end
end Go.Proofs.YtikohamfnnlhcaaGreatDoor

namespace Go.Proofs.YtikohamfnnlhcaaGreatDoor
open Go.RowKit Go.Deep Go.Shelf

/-- a token's cells. -/
abbrev tkC (x : Tk) : List Value := [.int .i64 (x.1 : Int), .string (bts x.2.1), .int .i64 (x.2.2 : Int)]
def flatT (L : List Tk) : List Value := L.flatMap tkC
theorem flatT_snoc (L : List Tk) (x : Tk) : flatT (L ++ [x]) = flatT L ++ tkC x := by simp [flatT]
theorem flatT_len : ∀ L : List Tk, (flatT L).length = L.length * 3
  | [] => rfl
  | x :: L => by
    have := flatT_len L
    unfold flatT at this ⊢
    rw [List.flatMap_cons, List.length_append, this]
    simp only [List.length_cons, List.length_nil]
    omega
theorem flatT_at : ∀ (L : List Tk) (i : Nat) (x : Tk), L[i]? = some x → (flatT L)[i * 3]? = some (.int .i64 (x.1 : Int)) ∧ (flatT L)[i * 3 + 1]? = some (.string (bts x.2.1)) ∧ (flatT L)[i * 3 + 2]? = some (.int .i64 (x.2.2 : Int))
  | [], i, x, h => by simp at h
  | y :: L, 0, x, h => by
    simp only [List.getElem?_cons_zero, Option.some.injEq] at h
    subst h
    exact ⟨rfl, rfl, rfl⟩
  | y :: L, i + 1, x, h => by
    have ih := flatT_at L i x (by simpa using h)
    have e : flatT (y :: L) = .int .i64 (y.1 : Int) :: .string (bts y.2.1) :: .int .i64 (y.2.2 : Int) :: flatT L := rfl
    rw [e, show (i + 1) * 3 = i * 3 + 1 + 1 + 1 by omega]
    simpa using ih
/-- a slice of tokens in a block of its own. -/
def TArr (e : TypeId) (w : World) (v : Value) (L : List Tk) (G : List Nat) : Prop :=
  (v = .slice none 0 0 ∧ L = [] ∧ G = []) ∨ ∃ g cap sp, v = .slice (some ⟨g, 0, none⟩) L.length cap ∧ G = [g] ∧ L.length ≤ cap ∧ cap ≤ maxLen ∧ Own w g e (flatT L ++ sp) ∧ (flatT L ++ sp).length = cap * 3
/-- tokens that lie in a row. -/
def TRow (w : World) (A : Option Addr) (L : List Tk) : Prop :=
  0 < L.length → ∃ b o, A = some ⟨b, o, none⟩ ∧ b < w.heap.size ∧ ∀ (i : Nat) x, L[i]? = some x → w.cell? ⟨b, o + i * 3, none⟩ = some (.int .i64 (x.1 : Int)) ∧ w.cell? ⟨b, o + i * 3 + 1, none⟩ = some (.string (bts x.2.1)) ∧ w.cell? ⟨b, o + i * 3 + 2, none⟩ = some (.int .i64 (x.2.2 : Int))
theorem TRow.below {w w' : World} {A : Option Addr} {L : List Tk} (h : TRow w A L) (hb : Below w.heap.size w w') : TRow w' A L := fun h0 => by
  obtain ⟨b, o, h1, h2, h3⟩ := h h0
  refine ⟨b, o, h1, Nat.lt_of_lt_of_le h2 hb.size, fun i x hx => ?_⟩
  obtain ⟨c0, c1, c2⟩ := h3 i x hx
  exact ⟨(hb.cell (p := ⟨b, _, none⟩) h2).trans c0, (hb.cell (p := ⟨b, _, none⟩) h2).trans c1, (hb.cell (p := ⟨b, _, none⟩) h2).trans c2⟩
section
variable {e : TypeId} {w w' : World} {v : Value} {L : List Tk} {G S : List Nat}
theorem TArr.kept (h : TArr e w v L G) (hk : Kept S w w') (hn : ∀ g ∈ G, g ∉ S) : TArr e w' v L G := by
  rcases h with h | ⟨g, cap, sp, h1, rfl, h3, h4, h5, h6⟩
  · exact .inl h
  · exact .inr ⟨g, cap, sp, h1, rfl, h3, h4, hk.own h5 (hn g (by simp)), h6⟩
theorem TArr.calm {B : Nat} (h : TArr e w v L G) (hk : Calm B w w') : TArr e w' v L G := by
  rcases h with h | ⟨g, cap, sp, h1, h2, h3, h4, h5, h6⟩
  · exact .inl h
  · exact .inr ⟨g, cap, sp, h1, h2, h3, h4, hk.own h5, h6⟩
theorem TArr.block (h : TArr e w v L G) : ∀ k, v.ownBlock = some k → k ∈ G := by
  intro k hk
  rcases h with ⟨rfl, _⟩ | ⟨g, cap, sp, rfl, rfl, _⟩
  · cases hk
  · injection hk with hk
    simp [← hk]
theorem TArr.val (h : TArr e w v L G) : ∃ A c, v = .slice A L.length c ∧ (A = none → c = 0) := by
  rcases h with ⟨rfl, rfl, _⟩ | ⟨g, cap, sp, rfl, _⟩
  · exact ⟨none, 0, rfl, fun _ => rfl⟩
  · exact ⟨_, _, rfl, fun h => by cases h⟩
theorem TArr.owns (h : TArr e w v L G) : w.ownsRow 0 e 3 v L.length (flatT L) := by
  refine ⟨flatT_len L, ?_⟩
  rcases h with ⟨rfl, rfl, _⟩ | ⟨g, cap, sp, rfl, _, h3, h4, h5, h6⟩
  · exact .inl ⟨rfl, rfl⟩
  · refine .inr ⟨g, cap, _, rfl, Nat.zero_le _, h5, h3, h4, by simpa using h6, ?_⟩
    rw [← flatT_len L]
    simp
theorem TArr.of_owns {g n cap : Nat} (h : w.ownsRow 0 e 3 (.slice (some ⟨g, 0, none⟩) n cap) n (flatT L)) : TArr e w (.slice (some ⟨g, 0, none⟩) n cap) L [g] := by
  obtain ⟨h1, ⟨h2, _⟩ | ⟨g', cap', cur, h2, _, h3, h4, h5, h6, h7⟩⟩ := h
  · cases h2
  · injection h2 with a1 _ a3
    injection a1 with a1
    injection a1 with a1
    subst a1 a3
    have hn : L.length = n := by
      have := flatT_len L
      omega
    refine .inr ⟨g, cap, cur.toList.drop (n * 3), by rw [hn], rfl, by omega, h5, ?_, ?_⟩
    · have e1 : flatT L ++ cur.toList.drop (n * 3) = cur.toList := by rw [← h7, List.take_append_drop]
      unfold Own
      rw [h3, e1]
    · rw [← h7, List.take_append_drop]
      simpa using h6
theorem TArr.row (h : TArr e w v L G) : ∃ A c, v = .slice A L.length c ∧ (A = none → c = 0) ∧ TRow w A L := by
  rcases h with ⟨rfl, rfl, _⟩ | ⟨g, cap, sp, rfl, _, h3, h4, h5, h6⟩
  · exact ⟨none, 0, rfl, fun _ => rfl, fun h => absurd h (by simp)⟩
  · refine ⟨_, _, rfl, (fun h => by cases h), fun _ => ⟨g, 0, rfl, h5.lt, fun i x hx => ?_⟩⟩
    have hi : i < L.length := (List.getElem?_eq_some_iff.1 hx).1
    have hl := flatT_len L
    obtain ⟨c0, c1, c2⟩ := flatT_at L i x hx
    rw [Nat.zero_add, h5.cell, h5.cell, h5.cell, List.getElem?_append_left (by omega), List.getElem?_append_left (by omega), List.getElem?_append_left (by omega)]
    exact ⟨c0, c1, c2⟩
end
end Go.Proofs.YtikohamfnnlhcaaGreatDoor

namespace Go.Proofs.YtikohamfnnlhcaaGreatDoor
open Go.RowKit Go.Deep Go.Shelf
attribute [local go_sem] Oper.semAt_some

theorem owns_val3 {w : World} {base n : Nat} {e : TypeId} {v : Value} {xs : List Value} (h : w.ownsRow base e 3 v (n + 1) xs) : ∃ g cap, v = .slice (some ⟨g, 0, none⟩) (n + 1) cap := by
  obtain ⟨_, ⟨_, h2⟩ | ⟨g, cap, cur, h2, _⟩⟩ := h
  · omega
  · exact ⟨g, cap, h2⟩
end Go.Proofs.YtikohamfnnlhcaaGreatDoor
