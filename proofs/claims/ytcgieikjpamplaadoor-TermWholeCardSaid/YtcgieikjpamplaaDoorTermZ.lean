/- TermWhole: the walk. Conditions: texts of at most 2^47 bytes; lex's two tables and strconv's variables as they are laid. -/
import Derived.Test.YtcgieikjpamplaaDoorTermT
import Derived.Test.YtcgieikjpamplaaDoorTermX
import Derived.Maps.OwnOps
set_option linter.unusedVariables false
set_option linter.unusedSimpArgs false
namespace Go.Proofs.YtcgieikjpamplaaDoor
open Go.RowKit Go.Deep Go.Shelf Go.Maps Go.WideMaps

theorem wpList_wanted {P : Program} {ops : Array Oper} {rest : List Oper} {o : Oper} {a : Act} {w : World} {Q : Exit → Act → World → Prop} (hw : Region.wanted o (yielded ops a.tmps) = true)
    (h : wpList P ops Q ({ o with guard := none } :: rest) a w) : wpList P ops Q (o :: rest) a w := by
  unfold wpList at h ⊢
  rw [if_pos hw]
  rw [if_pos (show Region.wanted { o with guard := none } (yielded ops a.tmps) = true from rfl)] at h
  exact h
theorem RuV.oks {w : World} {r : TRu} {A B : Option Addr} (hV : RuV w r A B) : ∀ t ∈ termsRu r, okTm t := fun t ht => by
  unfold termsRu at ht
  rcases List.mem_append.1 ht with ht | ht
  · exact hV.am.row.oks t ht
  · unfold termsB at ht
    obtain ⟨x, hx, ht⟩ := List.mem_flatMap.1 ht
    obtain ⟨i, hi, rfl⟩ := List.getElem_of_mem hx
    obtain ⟨b, o, _, _, hc⟩ := hV.row.at_ hi
    obtain ⟨_, _, _, _, _, _, _, hy⟩ := hc.open_
    exact hy.oks t ht
theorem map_below {H : Type} {P : Program} {k : TypeId} {R : Value → Option (DataW H × List MemPlace)} {w w' : World} {b n : Nat} {D : DataW H} (h : w.ownsMap P k R b n D) (hb : Below w.heap.size w w') : w'.ownsMap P k R b n D := by
  obtain ⟨es, clock, h1, h2⟩ := h
  exact ⟨es, clock, (hb.block b (Array.getElem?_eq_some_iff.1 h1).1).trans h1, h2⟩
/-- each text once, counted. -/
def cS (N : List ByteArray) : DataW Unit := setOf (.lit (.int .i64 1)) (N.map kS)
theorem cS_isMap (N : List ByteArray) : IsMap (cS N) := (tidy_setOf _ _ (fun y hy => by obtain ⟨_, _, rfl⟩ := List.mem_map.1 hy; trivial)).isMap
theorem cS_snoc (N : List ByteArray) (x : ByteArray) : cS (N ++ [x]) = (cS N).put (kS x) (.lit (.int .i64 1)) := by
  unfold cS
  rw [List.map_append, List.map_singleton, setOf_snoc]
theorem cS_new {N : List ByteArray} {x : ByteArray} (h : x ∉ N) : (cS N).atKey (kS x) (.lit (.int .i64 0)) = .lit (.int .i64 0) := by
  refine atKey_of_not_has ?_ _
  unfold cS
  rw [has_setOf _ _ _ (fun y hy => by obtain ⟨_, _, rfl⟩ := List.mem_map.1 hy; trivial), List.any_map]
  rw [List.any_eq_false]
  intro y hy
  show ¬ ((kS y).sameKey (kS x)) = true
  rw [kS_inj]
  simp only [decide_eq_true_eq]
  intro e
  subst e
  exact h hy
theorem cS_old_aux (x : ByteArray) (N : List ByteArray) : ∀ k, k ≤ N.length → (∃ i, i < k ∧ N[i]? = some x) → (cS (N.take k)).atKey (kS x) (.lit (.int .i64 0)) = .lit (.int .i64 1) := by
  intro k
  induction k with
  | zero => rintro _ ⟨i, hi, _⟩; omega
  | succ k ih =>
    rintro hk ⟨i, hi, hx⟩
    have hlt : k < N.length := by omega
    rw [← List.take_append_getElem hlt, cS_snoc]
    by_cases e : N[k] = x
    · rw [e]
      exact atKey_put_same (cS_isMap _) (show WideAt.IsKeyLit (kS x) from trivial) _ _
    · have hne : kS x ≠ kS N[k] := by
        intro e2
        have h2 : (kS N[k]).sameKey (kS x) = true := by rw [← e2, kS_inj]; simp
        rw [kS_inj] at h2
        exact e (of_decide_eq_true h2)
      rw [atKey_put_other hne]
      refine ih (by omega) ⟨i, ?_, hx⟩
      rcases Nat.lt_or_ge i k with h | h
      · exact h
      · have : i = k := by omega
        subst this
        rw [List.getElem?_eq_getElem hlt] at hx
        injection hx with hx
        exact absurd hx e
theorem cS_old {N : List ByteArray} {x : ByteArray} (h : x ∈ N) : (cS N).atKey (kS x) (.lit (.int .i64 0)) = .lit (.int .i64 1) := by
  obtain ⟨i, hi, rfl⟩ := List.getElem_of_mem h
  have := cS_old_aux N[i] N N.length (Nat.le_refl _) ⟨i, hi, List.getElem?_eq_getElem hi⟩
  rwa [List.take_length] at this
theorem lit_inj {a b : Int} (h : (DataW.lit (.int .i64 a) : DataW Unit) = .lit (.int .i64 b)) : b = a := by
  injection h with h
  injection h with _ h
  exact h.symm
theorem zeroI (w : World) : (zeroValue 3).run Tryd.prog w = .ok (.int .i64 0) w := by kernel_rfl
theorem OwnS.row {w : World} {L : List ByteArray} {A : Option Addr} {c : Nat} {w' : World} (h : w'.ownsRow w.heap.size 9 1 (.slice A L.length c) L.length (L.map Value.string)) : TxRow w' A L := TxRow.own h
theorem take_new {N : List ByteArray} (h : N.Nodup) {k : Nat} (hk : k < N.length) : N[k] ∉ N.take k := by
  intro hm
  have e : N = N.take k ++ N.drop k := (List.take_append_drop k N).symm
  rw [e] at h
  have hd : N.drop k = N[k] :: N.drop (k + 1) := (List.getElem_cons_drop hk).symm
  rw [hd] at h
  exact (List.nodup_append.1 h).2.2 _ hm _ (List.mem_cons_self ..) rfl
set_option maxRecDepth 100000 in
set_option maxHeartbeats 4000000 in
theorem whole_walk (p : TPg) (A : Option Addr) (c : Nat) (B : Option Addr) (d : Nat) (w : World) (hV : PgV w p A B) (hL : Lays w) :
    Calls Tryd.prog 4 #[pgV p A c B d] w fun e w' => e = .returned (.bool true) ∧ Below w.heap.size w w' := by
  have hmm := @run_makeMap Tryd.prog
  have hO : Own (w.alloc (.cells #[.slice A p.decls.length c, .slice B p.rules.length d] 48)) w.heap.size 48 [.slice A p.decls.length c, .slice B p.rules.length d] := heap_alloc_new _ _
  have hb0 : Below w.heap.size w (w.alloc (.cells #[.slice A p.decls.length c, .slice B p.rules.length d] 48)) := (Below.refl _ _).alloc (Nat.le_refl _) _
  have HB0 := Lib.hid hb0
  have HO := Lib.hid hO
  have HV := Lib.hid hV
  have HL := Lib.hid hL
  have hlen := hV.rules.1
  have CA := Lib.hid (alive_any _ (hL.below hb0))
  clear hV hL hO hb0
  unfold pgV
  go_enter Tryd.func4, Tryd.ntmps4
  go_wp2_with fail
  refine CA.out.mono ?_
  rintro e w1 ⟨rfl, hb⟩
  have HB1 : Hid (Below w.heap.size w w1) := HB0.out.trans (hb.mono HB0.out.size)
  have HO1 := Lib.hid (HO.out.below hb)
  have c0 := HO1.out.cell 0
  have c1 := HO1.out.cell 1
  have q1 := HO1.out.lt
  simp only [List.getElem?_cons_zero, List.getElem?_cons_succ] at c0 c1
  have CS := Lib.hid (Size_any p A c B d 1500 w1 (HV.out.below HB1.out) (by omega) (by omega))
  unfold pgV at CS
  clear hb CA
  have HC : Hid (0 ≤ leftPg p 1500 → p.decls.length ≤ 1500 ∧ p.rules.length ≤ 1500 ∧ (∀ d ∈ p.decls, d.kinds.length ≤ 1500) ∧ ∀ r ∈ p.rules, cntRu r ≤ 1500) := fun h => by
    obtain ⟨h1, h2, h3, h4⟩ := leftPg_cnt h
    exact ⟨by omega, by omega, fun d hd => by have := h3 d hd; omega, fun r hr => by have := h4 r hr; omega⟩
  go_wp2_with fail
  refine CS.out.mono ?_
  rintro e w2 ⟨rfl, hb⟩
  have HB2 : Hid (Below w.heap.size w w2) := HB1.out.trans (hb.mono HB1.out.size)
  have HO2 := Lib.hid (HO1.out.below hb)
  clear hb CS c0 c1 q1
  by_cases hz : leftPg p 1500 < 0
  · clear HC
    generalize leftPg p 1500 = z at *
    go_wp2_with fail
    go_ret
    exact ⟨rfl, HB2.out⟩
  · have HC2 := Lib.hid (HC.out (by omega))
    clear HC
    generalize leftPg p 1500 = z at *
    have c0 := HO2.out.cell 0
    have c1 := HO2.out.cell 1
    have q1 := HO2.out.lt
    simp only [List.getElem?_cons_zero, List.getElem?_cons_succ] at c0 c1
    have CF := Lib.hid (Formed_any p A c B d w2 (HV.out.below HB2.out) (HL.out.below HB2.out))
    unfold pgV at CF
    have HF : Hid (formedB p = true → ∀ r ∈ p.rules, rightRu r = true) := fun h r hr => by
      unfold formedB at h
      rw [Bool.and_eq_true, Bool.and_eq_true, Bool.and_eq_true] at h
      exact List.all_eq_true.1 h.2.2 r hr
    generalize formedB p = q at CF HF
    go_wp2_with fail
    refine CF.out.mono ?_
    rintro e w3 ⟨rfl, hb⟩
    have HB3 : Hid (Below w.heap.size w w3) := HB2.out.trans (hb.mono HB2.out.size)
    have HO3 := Lib.hid (HO2.out.below hb)
    clear hb CF c0 c1 q1
    have c0 := HO3.out.cell 0
    have c1 := HO3.out.cell 1
    have q1 := HO3.out.lt
    simp only [List.getElem?_cons_zero, List.getElem?_cons_succ] at c0 c1
    go_wp2_with fail
    clear c0 c1 q1
    go_loopw [24] (fun i wr => ∃ i0 : Nat, i0 ≤ p.rules.length ∧ i = .int .i64 i0 ∧ Hid (Below w.heap.size w wr)) (fun i _ => p.rules.length - (intOf i).toNat)
    case atStart => exact ⟨0, Nat.zero_le _, rfl, HB3⟩
    case round =>
      obtain ⟨i0, hi0, rfl, HB⟩ := hrel
      by_cases hlti : i0 < p.rules.length
      · obtain ⟨b0, o0, rfl, hbw0, hc⟩ := HV.out.rules.at_ hlti
        have hc := hc.pers (Pers.of HB.out)
        obtain ⟨AA, ac, BB, bc, c0, c1, c2, c3, c4, c5, hy⟩ := hc.open_
        have HY := Lib.hid hy
        have HQ : Hid (q = true → rightRu p.rules[i0] = true) := fun h => HF.out h _ (List.getElem_mem hlti)
        have HCn : Hid (cntRu p.rules[i0] ≤ 1500) := HC2.out.2.2.2 _ (List.getElem_mem hlti)
        clear hc hy
        generalize p.rules[i0] = y at *
        have hblen := HY.out.row.1
        have C14 : Hid (∀ W, Below wr.heap.size wr W → Calls Tryd.prog 14 #[.agg #[.string y.head.rel, .slice AA y.head.args.length ac, .int .i64 y.agg, .int .i64 y.col, .slice BB y.body.length bc, .int .i64 y.pos]] W fun e w' => e = .returned (.bool (rightRu y)) ∧ Below W.heap.size W w') := fun W hb => RightRule_is y AA ac BB bc _ W rfl (HY.out.below hb) (HL.out.below (HB.out.trans (hb.mono HB.out.size)))
        have C15 : Hid (∀ W, Below wr.heap.size wr W → Calls Tryd.prog 15 #[.agg #[.string y.head.rel, .slice AA y.head.args.length ac, .int .i64 y.agg, .int .i64 y.col, .slice BB y.body.length bc, .int .i64 y.pos]] W (OwnS W (names [] (termsRu y)))) := fun W hb => Vars_any y AA ac BB bc W (HY.out.below hb) (Nat.le_trans HCn.out (by omega))
        have HXL : Hid (∀ j (h : j < y.body.length), LtX wr BB j fun V => (∀ W, Below wr.heap.size wr W → Calls Tryd.prog 16 #[V] W fun r w' => r = .returned (.bool (rightLt y.body[j])) ∧ Below W.heap.size W w') ∧
            ∀ W, Below wr.heap.size wr W → Calls Tryd.prog 17 #[V] W (OwnS W (names [] (termsLt y.body[j])))) := fun j h =>
          lt_x HY.out.row h fun A1 a1 L l1 R r1 hx => ⟨fun W hb => RightLiteral_is _ A1 a1 L l1 R r1 _ W rfl (hx.below hb) (HL.out.below (HB.out.trans (hb.mono HB.out.size))), fun W hb => In_any _ A1 a1 L l1 R r1 W (hx.below hb) (by have h1 := cntB_mem (List.getElem_mem h); have h2 := HCn.out; unfold cntRu at h2; omega)⟩
        have HRL : Hid (rightRu y = true → ∀ l ∈ y.body, rightLt l = true) := fun h l hl => by
          unfold rightRu at h
          rw [Bool.and_eq_true, Bool.and_eq_true, Bool.and_eq_true] at h
          exact List.all_eq_true.1 h.2.2.2 l hl
        have HIn : Hid (∀ l ∈ y.body, ∀ x ∈ names [] (termsLt l), x ∈ names [] (termsRu y)) := fun l hl x hx => vars_part hl hx
        have HND : Hid ((names [] (termsRu y)).Nodup) := names_nodup _ _ List.nodup_nil
        have HNL : Hid ((names [] (termsRu y)).length ≤ 1500) := Nat.le_trans (Nat.le_trans (by have := names_len (termsRu y) []; simpa using this) (termsRu_len y)) HCn.out
        have HOk : Hid (∀ x ∈ names [] (termsRu y), x.size ≤ maxLen) := fun x hx => by
          rw [names_mem] at hx
          rcases hx with hx | ⟨_, t, ht, rfl⟩
          · cases hx
          · have h := RuV.oks HY.out t ht
            have := h.1
            unfold maxLen
            omega
        have HLL : Hid (∀ j (h : j < y.body.length), (names [] (termsLt y.body[j])).length ≤ 1500) := fun j h => by
          have h1 := cntB_mem (List.getElem_mem h)
          have h2 := HCn.out
          have h3 := names_len (termsLt y.body[j]) []
          have h4 := termsLt_len y.body[j]
          unfold cntRu at h2
          simp only [List.length_nil, Nat.zero_add] at h3
          omega
        generalize names [] (termsRu y) = N at *
        generalize hrr : rightRu y = rr at *
        have hnl := HNL.out
        clear hrr HV HF HC2
        obtain ⟨W5, hW5⟩ : ∃ W5, W5 = wr.alloc (.cells #[.string y.head.rel, .slice AA y.head.args.length ac, .int .i64 y.agg, .int .i64 y.col, .slice BB y.body.length bc, .int .i64 y.pos] 56) := ⟨_, rfl⟩
        have HO5 : Hid (Own W5 wr.heap.size 56 [.string y.head.rel, .slice AA y.head.args.length ac, .int .i64 y.agg, .int .i64 y.col, .slice BB y.body.length bc, .int .i64 y.pos]) := by subst hW5; exact heap_alloc_new _ _
        have HB5 : Hid (Below w.heap.size w W5) := by subst hW5; exact HB.out.alloc HB.out.size _
        have HR5 : Hid (Below wr.heap.size wr W5) := by subst hW5; exact (Below.refl _ _).alloc (Nat.le_refl _) _
        have HW5 := Lib.hid hW5
        clear hW5
        cases q with
        | false =>
          go_upto_region 11 with (fail)
          rw [← HW5.out]
          have g0 := HO5.out.cell 0
          have g1 := HO5.out.cell 1
          have g2 := HO5.out.cell 2
          have g3 := HO5.out.cell 3
          have g4 := HO5.out.cell 4
          have g5 := HO5.out.cell 5
          have gq := HO5.out.lt
          simp only [List.getElem?_cons_zero, List.getElem?_cons_succ] at g0 g1 g2 g3 g4 g5
          go_wp2_with fail
          clear g0 g1 g2 g3 g4 g5 gq
          refine (C15.out _ HR5.out).mono ?_
          rintro e w7 ⟨V, vc, rfl, ho7, hn7, hb7⟩
          have HB7 : Hid (Below w.heap.size w w7) := HB5.out.trans (hb7.mono HB5.out.size)
          have HR7 : Hid (Below wr.heap.size wr w7) := HR5.out.trans (hb7.mono HR5.out.size)
          have HO7 := Lib.hid (HO5.out.below hb7)
          have HT7 := Lib.hid (TxRow.own ho7)
          clear ho7 hn7 hb7 C15
          go_wp2_with fail
          go_loopw [39] (fun i wq => ∃ k : Nat, k ≤ N.length ∧ i = .int .i64 k ∧ Hid (wq.ownsMap Tryd.prog 9 (plainElem (H := Unit) Tryd.prog 3) w7.heap.size k (cS (N.take k))) ∧ Hid (Below w7.heap.size w7 wq)) (fun i _ => N.length - (intOf i).toNat)
          case atStart => exact ⟨0, Nat.zero_le _, rfl, Lib.hid (World.ownsMap_made _ _ _ _), Lib.hid ((Below.refl _ _).alloc (Nat.le_refl _) _)⟩
          case round =>
            obtain ⟨k, hk, rfl, HMq, HBq⟩ := hrel
            obtain ⟨wq, hwn⟩ : ∃ wq, wq = wr := ⟨_, rfl⟩
            subst hwn
            by_cases hltk : k < N.length
            · obtain ⟨bv, ov, rfl, hbv, hcv⟩ := HT7.out (by omega)
              have c0 := (HBq.out.cell (p := ⟨bv, ov + k, none⟩) hbv).trans (hcv k _ (List.getElem?_eq_getElem hltk))
              have HE : Hid (cS (N.take (k + 1)) = (cS (N.take k)).put (kS N[k]) (.lit (.int .i64 1))) := by show _ = _; rw [← List.take_append_getElem hltk, cS_snoc]
              have HAT := Lib.hid (cS_new (take_new HND.out hltk))
              have HKy : Hid (keyOf Tryd.prog 9 (.string N[k]) = some (kS N[k])) := Lib.hid (keyOf_string_mk Tryd.underlying9 (HOk.out _ (List.getElem_mem hltk)))
              have hk9 : k < maxLen := by unfold maxLen; omega
              clear hcv
              generalize N[k] = x at *
              go_wp2_with (first
                | (at_lookup; refine wpList_lookup_own_int _ rfl _ _ 60 rfl 9 3 .i64 keyedS Tryd.underlying60 Tryd.underlying3 (zeroI _) w7.heap.size k _ rfl HMq.out _ _ rfl HKy.out ?_; intro cc hat hwc; have hcc := lit_inj (hat.symm.trans HAT.out); clear hat hwc; subst hcc)
                | (at_mapUpdate; refine wpList_mapUpdate_own _ rfl _ _ _ 60 rfl 9 3 keyedS Tryd.underlying60 (plainElem (H := Unit) Tryd.prog 3) w7.heap.size k _ rfl HMq.out hk9 _ (.int .i64 1) _ rfl rfl HKy.out _ [] (plainElem_int Tryd.underlying3 (by decide)) ?_; intro w3 hown3 hgrow3))
              have HM3 : Hid (w3.ownsMap Tryd.prog 9 (plainElem (H := Unit) Tryd.prog 3) w7.heap.size (k + 1) (cS (N.take (k + 1)))) := by show w3.ownsMap _ _ _ _ _ _; rw [HE.out]; exact hown3
              have HB3' : Hid (Below w7.heap.size w7 w3) := HBq.out.grown hgrow3 HBq.out.size (fun j hj => by cases hj; exact Nat.le_refl _)
              clear hown3 hgrow3
              go_roundw
              case rel => exact ⟨k + 1, by omega, by go_num, HM3, HB3'⟩
              case measure => simp [intOf]; omega
            · have hkN : k = N.length := by omega
              have HMq : Hid (wq.ownsMap Tryd.prog 9 (plainElem (H := Unit) Tryd.prog 3) w7.heap.size N.length (cS N)) := by
                have h := HMq.out
                rw [hkN, List.take_length] at h
                exact h
              have HOq := Lib.hid (HO7.out.below HBq.out)
              have HRq : Hid (Below wr.heap.size wr wq) := HR7.out.trans (HBq.out.mono HR7.out.size)
              have HB9 : Hid (Below w.heap.size w wq) := HB7.out.trans (HBq.out.mono HB7.out.size)
              clear HT7 hkN
              have c3 := HOq.out.cell 4
              have cq := HOq.out.lt
              simp only [List.getElem?_cons_zero, List.getElem?_cons_succ] at c3
              go_wp2_with fail
              clear c3 cq
              go_loopw [51] (fun i wt => ∃ j : Nat, j ≤ y.body.length ∧ i = .int .i64 j ∧ Hid (Below wq.heap.size wq wt)) (fun i _ => y.body.length - (intOf i).toNat)
              case atStart => exact ⟨0, Nat.zero_le _, rfl, Lib.hid (Below.refl _ _)⟩
              case round =>
                obtain ⟨j, hj, rfl, HBt⟩ := hrel
                obtain ⟨wt, hwn⟩ : ∃ wt, wt = wr := ⟨_, rfl⟩
                subst hwn
                by_cases hlt : j < y.body.length
                · have HB : Hid (Below wr.heap.size wr wt) := HRq.out.trans (HBt.out.mono HRq.out.size)
                  obtain ⟨b, o, k0, k3, k4, k6, k7, k10, k12, k13, k16, s1, s5, s8, s11, s14, A2, A9, A15, n2, m2, n9, m9, n15, m15, rfl, hbw, ⟨c0, c1, c2, c3, c4, c5, c6, c7, c8, c9, c10, c11, c12, c13, c14, c15, c16⟩, hrl, hin⟩ := HXL.out j hlt
                  have c0 := (HB.out.cell (p := ⟨b, o + j * 17, none⟩) hbw).trans c0
                  have c1 := (HB.out.cell (p := ⟨b, o + j * 17 + 1, none⟩) hbw).trans c1
                  have c2 := (HB.out.cell (p := ⟨b, o + j * 17 + 2, none⟩) hbw).trans c2
                  have c3 := (HB.out.cell (p := ⟨b, o + j * 17 + 3, none⟩) hbw).trans c3
                  have c4 := (HB.out.cell (p := ⟨b, o + j * 17 + 4, none⟩) hbw).trans c4
                  have c5 := (HB.out.cell (p := ⟨b, o + j * 17 + 5, none⟩) hbw).trans c5
                  have c6 := (HB.out.cell (p := ⟨b, o + j * 17 + 6, none⟩) hbw).trans c6
                  have c7 := (HB.out.cell (p := ⟨b, o + j * 17 + 7, none⟩) hbw).trans c7
                  have c8 := (HB.out.cell (p := ⟨b, o + j * 17 + 8, none⟩) hbw).trans c8
                  have c9 := (HB.out.cell (p := ⟨b, o + j * 17 + 9, none⟩) hbw).trans c9
                  have c10 := (HB.out.cell (p := ⟨b, o + j * 17 + 10, none⟩) hbw).trans c10
                  have c11 := (HB.out.cell (p := ⟨b, o + j * 17 + 11, none⟩) hbw).trans c11
                  have c12 := (HB.out.cell (p := ⟨b, o + j * 17 + 12, none⟩) hbw).trans c12
                  have c13 := (HB.out.cell (p := ⟨b, o + j * 17 + 13, none⟩) hbw).trans c13
                  have c14 := (HB.out.cell (p := ⟨b, o + j * 17 + 14, none⟩) hbw).trans c14
                  have c15 := (HB.out.cell (p := ⟨b, o + j * 17 + 15, none⟩) hbw).trans c15
                  have c16 := (HB.out.cell (p := ⟨b, o + j * 17 + 16, none⟩) hbw).trans c16
                  have HCS : Hid (∀ (i : Nat) v, [.int .i64 k0, .string s1, .slice A2 n2 m2, .int .i64 k3, .int .i64 k4, .string s5, .int .i64 k6, .int .i64 k7, .string s8, .slice A9 n9 m9, .int .i64 k10, .string s11, .int .i64 k12, .int .i64 k13, .string s14, .slice A15 n15 m15, .int .i64 k16][i]? = some v → wt.cell? ⟨b, o + j * 17 + i, none⟩ = some v) := fun i v hv => by
                    match i, hv with
                    | 0, hv => cases hv; exact c0
                    | 1, hv => cases hv; exact c1
                    | 2, hv => cases hv; exact c2
                    | 3, hv => cases hv; exact c3
                    | 4, hv => cases hv; exact c4
                    | 5, hv => cases hv; exact c5
                    | 6, hv => cases hv; exact c6
                    | 7, hv => cases hv; exact c7
                    | 8, hv => cases hv; exact c8
                    | 9, hv => cases hv; exact c9
                    | 10, hv => cases hv; exact c10
                    | 11, hv => cases hv; exact c11
                    | 12, hv => cases hv; exact c12
                    | 13, hv => cases hv; exact c13
                    | 14, hv => cases hv; exact c14
                    | 15, hv => cases hv; exact c15
                    | 16, hv => cases hv; exact c16
                    | n + 17, hv => simp at hv
                  have HON : Hid ((#[.int .i64 k0, .string s1, .slice A2 n2 m2, .int .i64 k3, .int .i64 k4, .string s5, .int .i64 k6, .int .i64 k7, .string s8, .slice A9 n9 m9, .int .i64 k10, .string s11, .int .i64 k12, .int .i64 k13, .string s14, .slice A15 n15 m15, .int .i64 k16] : Array Value).all (·.oneCell') = true) := by show _ = _; simp [Value.oneCell']
                  clear c0 c1 c2 c3 c4 c5 c6 c7 c8 c9 c10 c11 c12 c13 c14 c15 c16
                  have HOx : Hid (Own (wt.alloc (.cells #[.int .i64 k0, .string s1, .slice A2 n2 m2, .int .i64 k3, .int .i64 k4, .string s5, .int .i64 k6, .int .i64 k7, .string s8, .slice A9 n9 m9, .int .i64 k10, .string s11, .int .i64 k12, .int .i64 k13, .string s14, .slice A15 n15 m15, .int .i64 k16] 63)) wt.heap.size 63 [.int .i64 k0, .string s1, .slice A2 n2 m2, .int .i64 k3, .int .i64 k4, .string s5, .int .i64 k6, .int .i64 k7, .string s8, .slice A9 n9 m9, .int .i64 k10, .string s11, .int .i64 k12, .int .i64 k13, .string s14, .slice A15 n15 m15, .int .i64 k16]) := Lib.hid (heap_alloc_new _ _)
                  have HBx : Hid (Below wq.heap.size wq (wt.alloc (.cells #[.int .i64 k0, .string s1, .slice A2 n2 m2, .int .i64 k3, .int .i64 k4, .string s5, .int .i64 k6, .int .i64 k7, .string s8, .slice A9 n9 m9, .int .i64 k10, .string s11, .int .i64 k12, .int .i64 k13, .string s14, .slice A15 n15 m15, .int .i64 k16] 63))) := Lib.hid (HBt.out.alloc HBt.out.size _)
                  have HRx : Hid (Below wr.heap.size wr (wt.alloc (.cells #[.int .i64 k0, .string s1, .slice A2 n2 m2, .int .i64 k3, .int .i64 k4, .string s5, .int .i64 k6, .int .i64 k7, .string s8, .slice A9 n9 m9, .int .i64 k10, .string s11, .int .i64 k12, .int .i64 k13, .string s14, .slice A15 n15 m15, .int .i64 k16] 63))) := Lib.hid (HB.out.alloc HB.out.size _)
                  have HMx := Lib.hid (map_below HMq.out HBx.out)
                  have HOr := Lib.hid (HOq.out.below HBx.out)
                  have HMN : Hid (∀ x ∈ names [] (termsLt y.body[j]), x ∈ N) := HIn.out _ (List.getElem_mem hlt)
                  have HML : Hid ((names [] (termsLt y.body[j])).length ≤ 1500) := HLL.out j hlt
                  have HQ2 : Hid (rr = true → rightLt y.body[j] = true) := fun h => HRL.out h _ (List.getElem_mem hlt)
                  have g0 := HOr.out.cell 0
                  have g1 := HOr.out.cell 1
                  have g2 := HOr.out.cell 2
                  have g3 := HOr.out.cell 3
                  have g4 := HOr.out.cell 4
                  have g5 := HOr.out.cell 5
                  have gq := HOr.out.lt
                  simp only [List.getElem?_cons_zero, List.getElem?_cons_succ] at g0 g1 g2 g3 g4 g5
                  go_wp2_with (first | (refine wpList_load_at (o := ⟨some 54, _, _, _, _, _⟩) rfl 63 _ rfl b (o + j * 17) rfl [.int .i64 k0, .string s1, .slice A2 n2 m2, .int .i64 k3, .int .i64 k4, .string s5, .int .i64 k6, .int .i64 k7, .string s8, .slice A9 n9 m9, .int .i64 k10, .string s11, .int .i64 k12, .int .i64 k13, .string s14, .slice A15 n15 m15, .int .i64 k16] HCS.out _ Tryd.underlying63 rfl infoLit ?_) | (refine wpList_store_new (o := ⟨none, .store 63 _ _, _, _, _, _⟩) rfl 63 _ _ rfl #[.int .i64 k0, .string s1, .slice A2 n2 m2, .int .i64 k3, .int .i64 k4, .string s5, .int .i64 k6, .int .i64 k7, .string s8, .slice A9 n9 m9, .int .i64 k10, .string s11, .int .i64 k12, .int .i64 k13, .string s14, .slice A15 n15 m15, .int .i64 k16] rfl rfl 63 _ infoLit rfl HON.out ?_))
                  clear g0 g1 g2 g3 g4 g5 gq
                  refine (C14.out _ HRx.out).mono ?_
                  rintro e w8 ⟨rfl, hb8⟩
                  have HB8 : Hid (Below wq.heap.size wq w8) := HBx.out.trans (hb8.mono HBx.out.size)
                  have HR8 : Hid (Below wr.heap.size wr w8) := HRx.out.trans (hb8.mono HRx.out.size)
                  have HO8 := Lib.hid (HOx.out.below hb8)
                  have HM8 := Lib.hid (map_below HMx.out hb8)
                  clear hb8 HOx HBx HRx HMx HOr HCS HON
                  cases rr with
                  | false =>
                    clear hrl
                    have CI := Lib.hid (hin _ HR8.out)
                    go_wp2_with (refine wpList_load_row (o := ⟨some 62, _, _, _, _, none⟩) rfl 63 _ rfl wt.heap.size rfl 63 #[.int .i64 k0, .string s1, .slice A2 n2 m2, .int .i64 k3, .int .i64 k4, .string s5, .int .i64 k6, .int .i64 k7, .string s8, .slice A9 n9 m9, .int .i64 k10, .string s11, .int .i64 k12, .int .i64 k13, .string s14, .slice A15 n15 m15, .int .i64 k16] (0, 0) _ HO8.out Tryd.underlying63 rfl infoLit ?_)
                    refine CI.out.mono ?_
                    rintro e w10 ⟨U, uc, rfl, ho10, hn10, hb10⟩
                    have HR10 : Hid (Below wq.heap.size wq w10) := HB8.out.trans (hb10.mono HB8.out.size)
                    have HU10 := Lib.hid (TxRow.own ho10)
                    have HM10 := Lib.hid (map_below HM8.out hb10)
                    clear ho10 hn10 hb10 CI
                    have hml : (names [] (termsLt y.body[j])).length ≤ 1500 := HML.out
                    generalize names [] (termsLt y.body[j]) = M at *
                    go_wp2_with fail
                    go_loopw [65] (fun i wu => ∃ m : Nat, m ≤ M.length ∧ i = .int .i64 m ∧ Hid (Below w10.heap.size w10 wu)) (fun i _ => M.length - (intOf i).toNat)
                    case atStart => exact ⟨0, Nat.zero_le _, rfl, Lib.hid (Below.refl _ _)⟩
                    case round =>
                      obtain ⟨m, hm, rfl, HBu⟩ := hrel
                      obtain ⟨wu, hwn⟩ : ∃ wu, wu = wr := ⟨_, rfl⟩
                      subst hwn
                      by_cases hltm : m < M.length
                      · obtain ⟨bu, ou, rfl, hbu, hcu⟩ := HU10.out (by omega)
                        have c0 := (HBu.out.cell (p := ⟨bu, ou + m, none⟩) hbu).trans (hcu m _ (List.getElem?_eq_getElem hltm))
                        have hmem := HMN.out _ (List.getElem_mem hltm)
                        have HAT := Lib.hid (cS_old hmem)
                        have HKy : Hid (keyOf Tryd.prog 9 (.string M[m]) = some (kS M[m])) := Lib.hid (keyOf_string_mk Tryd.underlying9 (HOk.out _ hmem))
                        have HMu := Lib.hid (map_below HM10.out HBu.out)
                        clear hcu hmem
                        generalize M[m] = x at *
                        go_wp2_with (at_lookup; refine wpList_lookup_own_int _ rfl _ _ 60 rfl 9 3 .i64 keyedS Tryd.underlying60 Tryd.underlying3 (zeroI _) w7.heap.size N.length _ rfl HMu.out _ _ rfl HKy.out ?_; intro cc hat hwc; have hcc := lit_inj (hat.symm.trans HAT.out); clear hat hwc; subst hcc)
                        go_roundw
                        case rel => exact ⟨m + 1, by omega, by go_num, HBu⟩
                        case measure => simp [intOf]; omega
                      · go_wp2_with fail
                        go_roundw
                        case rel => exact ⟨j + 1, by omega, by go_num, Lib.hid (HR10.out.trans (HBu.out.mono HR10.out.size))⟩
                        case measure => simp [intOf]; omega
                  | true =>
                    have CR := Lib.hid (hrl _ HR8.out)
                    rw [HQ2.out rfl] at CR
                    go_wp2_with (refine wpList_wanted (o := ⟨some 58, _, _, _, _, some _⟩) (by rfl) ?_; refine wpList_load_row rfl 63 _ rfl wt.heap.size rfl 63 #[.int .i64 k0, .string s1, .slice A2 n2 m2, .int .i64 k3, .int .i64 k4, .string s5, .int .i64 k6, .int .i64 k7, .string s8, .slice A9 n9 m9, .int .i64 k10, .string s11, .int .i64 k12, .int .i64 k13, .string s14, .slice A15 n15 m15, .int .i64 k16] (0, 0) _ HO8.out Tryd.underlying63 rfl infoLit ?_)
                    refine CR.out.mono ?_
                    rintro e w11 ⟨rfl, hb11⟩
                    have HB11 : Hid (Below wq.heap.size wq w11) := HB8.out.trans (hb11.mono HB8.out.size)
                    have HR11 : Hid (Below wr.heap.size wr w11) := HR8.out.trans (hb11.mono HR8.out.size)
                    have HO11 := Lib.hid (HO8.out.below hb11)
                    have HM11 := Lib.hid (map_below HM8.out hb11)
                    clear hb11 CR hrl
                    have CI := Lib.hid (hin _ HR11.out)
                    go_wp2_with (refine wpList_load_row (o := ⟨some 62, _, _, _, _, none⟩) rfl 63 _ rfl wt.heap.size rfl 63 #[.int .i64 k0, .string s1, .slice A2 n2 m2, .int .i64 k3, .int .i64 k4, .string s5, .int .i64 k6, .int .i64 k7, .string s8, .slice A9 n9 m9, .int .i64 k10, .string s11, .int .i64 k12, .int .i64 k13, .string s14, .slice A15 n15 m15, .int .i64 k16] (0, 0) _ HO11.out Tryd.underlying63 rfl infoLit ?_)
                    refine CI.out.mono ?_
                    rintro e w10 ⟨U, uc, rfl, ho10, hn10, hb10⟩
                    have HR10 : Hid (Below wq.heap.size wq w10) := HB11.out.trans (hb10.mono HB11.out.size)
                    have HU10 := Lib.hid (TxRow.own ho10)
                    have HM10 := Lib.hid (map_below HM11.out hb10)
                    clear ho10 hn10 hb10 CI
                    have hml : (names [] (termsLt y.body[j])).length ≤ 1500 := HML.out
                    generalize names [] (termsLt y.body[j]) = M at *
                    go_wp2_with fail
                    go_loopw [65] (fun i wu => ∃ m : Nat, m ≤ M.length ∧ i = .int .i64 m ∧ Hid (Below w10.heap.size w10 wu)) (fun i _ => M.length - (intOf i).toNat)
                    case atStart => exact ⟨0, Nat.zero_le _, rfl, Lib.hid (Below.refl _ _)⟩
                    case round =>
                      obtain ⟨m, hm, rfl, HBu⟩ := hrel
                      obtain ⟨wu, hwn⟩ : ∃ wu, wu = wr := ⟨_, rfl⟩
                      subst hwn
                      by_cases hltm : m < M.length
                      · obtain ⟨bu, ou, rfl, hbu, hcu⟩ := HU10.out (by omega)
                        have c0 := (HBu.out.cell (p := ⟨bu, ou + m, none⟩) hbu).trans (hcu m _ (List.getElem?_eq_getElem hltm))
                        have hmem := HMN.out _ (List.getElem_mem hltm)
                        have HAT := Lib.hid (cS_old hmem)
                        have HKy : Hid (keyOf Tryd.prog 9 (.string M[m]) = some (kS M[m])) := Lib.hid (keyOf_string_mk Tryd.underlying9 (HOk.out _ hmem))
                        have HMu := Lib.hid (map_below HM10.out HBu.out)
                        clear hcu hmem
                        generalize M[m] = x at *
                        go_wp2_with (at_lookup; refine wpList_lookup_own_int _ rfl _ _ 60 rfl 9 3 .i64 keyedS Tryd.underlying60 Tryd.underlying3 (zeroI _) w7.heap.size N.length _ rfl HMu.out _ _ rfl HKy.out ?_; intro cc hat hwc; have hcc := lit_inj (hat.symm.trans HAT.out); clear hat hwc; subst hcc)
                        go_roundw
                        case rel => exact ⟨m + 1, by omega, by go_num, HBu⟩
                        case measure => simp [intOf]; omega
                      · go_wp2_with fail
                        go_roundw
                        case rel => exact ⟨j + 1, by omega, by go_num, Lib.hid (HR10.out.trans (HBu.out.mono HR10.out.size))⟩
                        case measure => simp [intOf]; omega
                · go_wp2_with fail
                  go_roundw
                  case rel => exact ⟨i0 + 1, by omega, by go_num, Lib.hid (HB9.out.trans (HBt.out.mono HB9.out.size))⟩
                  case measure => simp [intOf]; omega

        | true =>
          have g0 := HO5.out.cell 0
          have g1 := HO5.out.cell 1
          have g2 := HO5.out.cell 2
          have g3 := HO5.out.cell 3
          have g4 := HO5.out.cell 4
          have g5 := HO5.out.cell 5
          have gq := HO5.out.lt
          simp only [List.getElem?_cons_zero, List.getElem?_cons_succ] at g0 g1 g2 g3 g4 g5

          have hrt := HQ.out rfl
          subst hrt
          rw [HW5.out] at g0 g1 g2 g3 g4 g5 gq
          go_wp2_with fail
          rw [← HW5.out]
          clear g0 g1 g2 g3 g4 g5 gq

          refine (C14.out _ HR5.out).mono ?_
          rintro e w6 ⟨rfl, hb6⟩
          have HB6 : Hid (Below w.heap.size w w6) := HB5.out.trans (hb6.mono HB5.out.size)
          have HR6 : Hid (Below wr.heap.size wr w6) := HR5.out.trans (hb6.mono HR5.out.size)
          have HO6 := Lib.hid (HO5.out.below hb6)
          clear hb6
          have g0 := HO6.out.cell 0
          have g1 := HO6.out.cell 1
          have g2 := HO6.out.cell 2
          have g3 := HO6.out.cell 3
          have g4 := HO6.out.cell 4
          have g5 := HO6.out.cell 5
          have gq := HO6.out.lt
          simp only [List.getElem?_cons_zero, List.getElem?_cons_succ] at g0 g1 g2 g3 g4 g5
          go_wp2_with fail
          clear g0 g1 g2 g3 g4 g5 gq
          refine (C15.out _ HR6.out).mono ?_
          rintro e w7 ⟨V, vc, rfl, ho7, hn7, hb7⟩
          have HB7 : Hid (Below w.heap.size w w7) := HB6.out.trans (hb7.mono HB6.out.size)
          have HR7 : Hid (Below wr.heap.size wr w7) := HR6.out.trans (hb7.mono HR6.out.size)
          have HO7 := Lib.hid (HO6.out.below hb7)
          have HT7 := Lib.hid (TxRow.own ho7)
          clear ho7 hn7 hb7 C15
          go_wp2_with fail
          go_loopw [39] (fun i wq => ∃ k : Nat, k ≤ N.length ∧ i = .int .i64 k ∧ Hid (wq.ownsMap Tryd.prog 9 (plainElem (H := Unit) Tryd.prog 3) w7.heap.size k (cS (N.take k))) ∧ Hid (Below w7.heap.size w7 wq)) (fun i _ => N.length - (intOf i).toNat)
          case atStart => exact ⟨0, Nat.zero_le _, rfl, Lib.hid (World.ownsMap_made _ _ _ _), Lib.hid ((Below.refl _ _).alloc (Nat.le_refl _) _)⟩
          case round =>
            obtain ⟨k, hk, rfl, HMq, HBq⟩ := hrel
            obtain ⟨wq, hwn⟩ : ∃ wq, wq = wr := ⟨_, rfl⟩
            subst hwn
            by_cases hltk : k < N.length
            · obtain ⟨bv, ov, rfl, hbv, hcv⟩ := HT7.out (by omega)
              have c0 := (HBq.out.cell (p := ⟨bv, ov + k, none⟩) hbv).trans (hcv k _ (List.getElem?_eq_getElem hltk))
              have HE : Hid (cS (N.take (k + 1)) = (cS (N.take k)).put (kS N[k]) (.lit (.int .i64 1))) := by show _ = _; rw [← List.take_append_getElem hltk, cS_snoc]
              have HAT := Lib.hid (cS_new (take_new HND.out hltk))
              have HKy : Hid (keyOf Tryd.prog 9 (.string N[k]) = some (kS N[k])) := Lib.hid (keyOf_string_mk Tryd.underlying9 (HOk.out _ (List.getElem_mem hltk)))
              have hk9 : k < maxLen := by unfold maxLen; omega
              clear hcv
              generalize N[k] = x at *
              go_wp2_with (first
                | (at_lookup; refine wpList_lookup_own_int _ rfl _ _ 60 rfl 9 3 .i64 keyedS Tryd.underlying60 Tryd.underlying3 (zeroI _) w7.heap.size k _ rfl HMq.out _ _ rfl HKy.out ?_; intro cc hat hwc; have hcc := lit_inj (hat.symm.trans HAT.out); clear hat hwc; subst hcc)
                | (at_mapUpdate; refine wpList_mapUpdate_own _ rfl _ _ _ 60 rfl 9 3 keyedS Tryd.underlying60 (plainElem (H := Unit) Tryd.prog 3) w7.heap.size k _ rfl HMq.out hk9 _ (.int .i64 1) _ rfl rfl HKy.out _ [] (plainElem_int Tryd.underlying3 (by decide)) ?_; intro w3 hown3 hgrow3))
              have HM3 : Hid (w3.ownsMap Tryd.prog 9 (plainElem (H := Unit) Tryd.prog 3) w7.heap.size (k + 1) (cS (N.take (k + 1)))) := by show w3.ownsMap _ _ _ _ _ _; rw [HE.out]; exact hown3
              have HB3' : Hid (Below w7.heap.size w7 w3) := HBq.out.grown hgrow3 HBq.out.size (fun j hj => by cases hj; exact Nat.le_refl _)
              clear hown3 hgrow3
              go_roundw
              case rel => exact ⟨k + 1, by omega, by go_num, HM3, HB3'⟩
              case measure => simp [intOf]; omega
            · have hkN : k = N.length := by omega
              have HMq : Hid (wq.ownsMap Tryd.prog 9 (plainElem (H := Unit) Tryd.prog 3) w7.heap.size N.length (cS N)) := by
                have h := HMq.out
                rw [hkN, List.take_length] at h
                exact h
              have HOq := Lib.hid (HO7.out.below HBq.out)
              have HRq : Hid (Below wr.heap.size wr wq) := HR7.out.trans (HBq.out.mono HR7.out.size)
              have HB9 : Hid (Below w.heap.size w wq) := HB7.out.trans (HBq.out.mono HB7.out.size)
              clear HT7 hkN
              have c3 := HOq.out.cell 4
              have cq := HOq.out.lt
              simp only [List.getElem?_cons_zero, List.getElem?_cons_succ] at c3
              go_wp2_with fail
              clear c3 cq
              go_loopw [51] (fun i wt => ∃ j : Nat, j ≤ y.body.length ∧ i = .int .i64 j ∧ Hid (Below wq.heap.size wq wt)) (fun i _ => y.body.length - (intOf i).toNat)
              case atStart => exact ⟨0, Nat.zero_le _, rfl, Lib.hid (Below.refl _ _)⟩
              case round =>
                obtain ⟨j, hj, rfl, HBt⟩ := hrel
                obtain ⟨wt, hwn⟩ : ∃ wt, wt = wr := ⟨_, rfl⟩
                subst hwn
                by_cases hlt : j < y.body.length
                · have HB : Hid (Below wr.heap.size wr wt) := HRq.out.trans (HBt.out.mono HRq.out.size)
                  obtain ⟨b, o, k0, k3, k4, k6, k7, k10, k12, k13, k16, s1, s5, s8, s11, s14, A2, A9, A15, n2, m2, n9, m9, n15, m15, rfl, hbw, ⟨c0, c1, c2, c3, c4, c5, c6, c7, c8, c9, c10, c11, c12, c13, c14, c15, c16⟩, hrl, hin⟩ := HXL.out j hlt
                  have c0 := (HB.out.cell (p := ⟨b, o + j * 17, none⟩) hbw).trans c0
                  have c1 := (HB.out.cell (p := ⟨b, o + j * 17 + 1, none⟩) hbw).trans c1
                  have c2 := (HB.out.cell (p := ⟨b, o + j * 17 + 2, none⟩) hbw).trans c2
                  have c3 := (HB.out.cell (p := ⟨b, o + j * 17 + 3, none⟩) hbw).trans c3
                  have c4 := (HB.out.cell (p := ⟨b, o + j * 17 + 4, none⟩) hbw).trans c4
                  have c5 := (HB.out.cell (p := ⟨b, o + j * 17 + 5, none⟩) hbw).trans c5
                  have c6 := (HB.out.cell (p := ⟨b, o + j * 17 + 6, none⟩) hbw).trans c6
                  have c7 := (HB.out.cell (p := ⟨b, o + j * 17 + 7, none⟩) hbw).trans c7
                  have c8 := (HB.out.cell (p := ⟨b, o + j * 17 + 8, none⟩) hbw).trans c8
                  have c9 := (HB.out.cell (p := ⟨b, o + j * 17 + 9, none⟩) hbw).trans c9
                  have c10 := (HB.out.cell (p := ⟨b, o + j * 17 + 10, none⟩) hbw).trans c10
                  have c11 := (HB.out.cell (p := ⟨b, o + j * 17 + 11, none⟩) hbw).trans c11
                  have c12 := (HB.out.cell (p := ⟨b, o + j * 17 + 12, none⟩) hbw).trans c12
                  have c13 := (HB.out.cell (p := ⟨b, o + j * 17 + 13, none⟩) hbw).trans c13
                  have c14 := (HB.out.cell (p := ⟨b, o + j * 17 + 14, none⟩) hbw).trans c14
                  have c15 := (HB.out.cell (p := ⟨b, o + j * 17 + 15, none⟩) hbw).trans c15
                  have c16 := (HB.out.cell (p := ⟨b, o + j * 17 + 16, none⟩) hbw).trans c16
                  have HCS : Hid (∀ (i : Nat) v, [.int .i64 k0, .string s1, .slice A2 n2 m2, .int .i64 k3, .int .i64 k4, .string s5, .int .i64 k6, .int .i64 k7, .string s8, .slice A9 n9 m9, .int .i64 k10, .string s11, .int .i64 k12, .int .i64 k13, .string s14, .slice A15 n15 m15, .int .i64 k16][i]? = some v → wt.cell? ⟨b, o + j * 17 + i, none⟩ = some v) := fun i v hv => by
                    match i, hv with
                    | 0, hv => cases hv; exact c0
                    | 1, hv => cases hv; exact c1
                    | 2, hv => cases hv; exact c2
                    | 3, hv => cases hv; exact c3
                    | 4, hv => cases hv; exact c4
                    | 5, hv => cases hv; exact c5
                    | 6, hv => cases hv; exact c6
                    | 7, hv => cases hv; exact c7
                    | 8, hv => cases hv; exact c8
                    | 9, hv => cases hv; exact c9
                    | 10, hv => cases hv; exact c10
                    | 11, hv => cases hv; exact c11
                    | 12, hv => cases hv; exact c12
                    | 13, hv => cases hv; exact c13
                    | 14, hv => cases hv; exact c14
                    | 15, hv => cases hv; exact c15
                    | 16, hv => cases hv; exact c16
                    | n + 17, hv => simp at hv
                  have HON : Hid ((#[.int .i64 k0, .string s1, .slice A2 n2 m2, .int .i64 k3, .int .i64 k4, .string s5, .int .i64 k6, .int .i64 k7, .string s8, .slice A9 n9 m9, .int .i64 k10, .string s11, .int .i64 k12, .int .i64 k13, .string s14, .slice A15 n15 m15, .int .i64 k16] : Array Value).all (·.oneCell') = true) := by show _ = _; simp [Value.oneCell']
                  clear c0 c1 c2 c3 c4 c5 c6 c7 c8 c9 c10 c11 c12 c13 c14 c15 c16
                  have HOx : Hid (Own (wt.alloc (.cells #[.int .i64 k0, .string s1, .slice A2 n2 m2, .int .i64 k3, .int .i64 k4, .string s5, .int .i64 k6, .int .i64 k7, .string s8, .slice A9 n9 m9, .int .i64 k10, .string s11, .int .i64 k12, .int .i64 k13, .string s14, .slice A15 n15 m15, .int .i64 k16] 63)) wt.heap.size 63 [.int .i64 k0, .string s1, .slice A2 n2 m2, .int .i64 k3, .int .i64 k4, .string s5, .int .i64 k6, .int .i64 k7, .string s8, .slice A9 n9 m9, .int .i64 k10, .string s11, .int .i64 k12, .int .i64 k13, .string s14, .slice A15 n15 m15, .int .i64 k16]) := Lib.hid (heap_alloc_new _ _)
                  have HBx : Hid (Below wq.heap.size wq (wt.alloc (.cells #[.int .i64 k0, .string s1, .slice A2 n2 m2, .int .i64 k3, .int .i64 k4, .string s5, .int .i64 k6, .int .i64 k7, .string s8, .slice A9 n9 m9, .int .i64 k10, .string s11, .int .i64 k12, .int .i64 k13, .string s14, .slice A15 n15 m15, .int .i64 k16] 63))) := Lib.hid (HBt.out.alloc HBt.out.size _)
                  have HRx : Hid (Below wr.heap.size wr (wt.alloc (.cells #[.int .i64 k0, .string s1, .slice A2 n2 m2, .int .i64 k3, .int .i64 k4, .string s5, .int .i64 k6, .int .i64 k7, .string s8, .slice A9 n9 m9, .int .i64 k10, .string s11, .int .i64 k12, .int .i64 k13, .string s14, .slice A15 n15 m15, .int .i64 k16] 63))) := Lib.hid (HB.out.alloc HB.out.size _)
                  have HMx := Lib.hid (map_below HMq.out HBx.out)
                  have HOr := Lib.hid (HOq.out.below HBx.out)
                  have HMN : Hid (∀ x ∈ names [] (termsLt y.body[j]), x ∈ N) := HIn.out _ (List.getElem_mem hlt)
                  have HML : Hid ((names [] (termsLt y.body[j])).length ≤ 1500) := HLL.out j hlt
                  have HQ2 : Hid (rightLt y.body[j] = true) := HRL.out (by first | rfl | trivial) _ (List.getElem_mem hlt)
                  have g0 := HOr.out.cell 0
                  have g1 := HOr.out.cell 1
                  have g2 := HOr.out.cell 2
                  have g3 := HOr.out.cell 3
                  have g4 := HOr.out.cell 4
                  have g5 := HOr.out.cell 5
                  have gq := HOr.out.lt
                  simp only [List.getElem?_cons_zero, List.getElem?_cons_succ] at g0 g1 g2 g3 g4 g5
                  go_wp2_with (first | (refine wpList_load_at (o := ⟨some 54, _, _, _, _, _⟩) rfl 63 _ rfl b (o + j * 17) rfl [.int .i64 k0, .string s1, .slice A2 n2 m2, .int .i64 k3, .int .i64 k4, .string s5, .int .i64 k6, .int .i64 k7, .string s8, .slice A9 n9 m9, .int .i64 k10, .string s11, .int .i64 k12, .int .i64 k13, .string s14, .slice A15 n15 m15, .int .i64 k16] HCS.out _ Tryd.underlying63 rfl infoLit ?_) | (refine wpList_store_new (o := ⟨none, .store 63 _ _, _, _, _, _⟩) rfl 63 _ _ rfl #[.int .i64 k0, .string s1, .slice A2 n2 m2, .int .i64 k3, .int .i64 k4, .string s5, .int .i64 k6, .int .i64 k7, .string s8, .slice A9 n9 m9, .int .i64 k10, .string s11, .int .i64 k12, .int .i64 k13, .string s14, .slice A15 n15 m15, .int .i64 k16] rfl rfl 63 _ infoLit rfl HON.out ?_))
                  clear g0 g1 g2 g3 g4 g5 gq
                  refine (C14.out _ HRx.out).mono ?_
                  rintro e w8 ⟨rfl, hb8⟩
                  have HB8 : Hid (Below wq.heap.size wq w8) := HBx.out.trans (hb8.mono HBx.out.size)
                  have HR8 : Hid (Below wr.heap.size wr w8) := HRx.out.trans (hb8.mono HRx.out.size)
                  have HO8 := Lib.hid (HOx.out.below hb8)
                  have HM8 := Lib.hid (map_below HMx.out hb8)
                  clear hb8 HOx HBx HRx HMx HOr HCS HON
                  have CR := Lib.hid (hrl _ HR8.out)
                  rw [HQ2.out] at CR
                  go_wp2_with (refine wpList_wanted (o := ⟨some 58, _, _, _, _, some _⟩) (by rfl) ?_; refine wpList_load_row rfl 63 _ rfl wt.heap.size rfl 63 #[.int .i64 k0, .string s1, .slice A2 n2 m2, .int .i64 k3, .int .i64 k4, .string s5, .int .i64 k6, .int .i64 k7, .string s8, .slice A9 n9 m9, .int .i64 k10, .string s11, .int .i64 k12, .int .i64 k13, .string s14, .slice A15 n15 m15, .int .i64 k16] (0, 0) _ HO8.out Tryd.underlying63 rfl infoLit ?_)
                  refine CR.out.mono ?_
                  rintro e w11 ⟨rfl, hb11⟩
                  have HB11 : Hid (Below wq.heap.size wq w11) := HB8.out.trans (hb11.mono HB8.out.size)
                  have HR11 : Hid (Below wr.heap.size wr w11) := HR8.out.trans (hb11.mono HR8.out.size)
                  have HO11 := Lib.hid (HO8.out.below hb11)
                  have HM11 := Lib.hid (map_below HM8.out hb11)
                  clear hb11 CR hrl
                  have CI := Lib.hid (hin _ HR11.out)
                  go_wp2_with (refine wpList_load_row (o := ⟨some 62, _, _, _, _, none⟩) rfl 63 _ rfl wt.heap.size rfl 63 #[.int .i64 k0, .string s1, .slice A2 n2 m2, .int .i64 k3, .int .i64 k4, .string s5, .int .i64 k6, .int .i64 k7, .string s8, .slice A9 n9 m9, .int .i64 k10, .string s11, .int .i64 k12, .int .i64 k13, .string s14, .slice A15 n15 m15, .int .i64 k16] (0, 0) _ HO11.out Tryd.underlying63 rfl infoLit ?_)
                  refine CI.out.mono ?_
                  rintro e w10 ⟨U, uc, rfl, ho10, hn10, hb10⟩
                  have HR10 : Hid (Below wq.heap.size wq w10) := HB11.out.trans (hb10.mono HB11.out.size)
                  have HU10 := Lib.hid (TxRow.own ho10)
                  have HM10 := Lib.hid (map_below HM11.out hb10)
                  clear ho10 hn10 hb10 CI
                  have hml : (names [] (termsLt y.body[j])).length ≤ 1500 := HML.out
                  generalize names [] (termsLt y.body[j]) = M at *
                  go_wp2_with fail
                  go_loopw [65] (fun i wu => ∃ m : Nat, m ≤ M.length ∧ i = .int .i64 m ∧ Hid (Below w10.heap.size w10 wu)) (fun i _ => M.length - (intOf i).toNat)
                  case atStart => exact ⟨0, Nat.zero_le _, rfl, Lib.hid (Below.refl _ _)⟩
                  case round =>
                    obtain ⟨m, hm, rfl, HBu⟩ := hrel
                    obtain ⟨wu, hwn⟩ : ∃ wu, wu = wr := ⟨_, rfl⟩
                    subst hwn
                    by_cases hltm : m < M.length
                    · obtain ⟨bu, ou, rfl, hbu, hcu⟩ := HU10.out (by omega)
                      have c0 := (HBu.out.cell (p := ⟨bu, ou + m, none⟩) hbu).trans (hcu m _ (List.getElem?_eq_getElem hltm))
                      have hmem := HMN.out _ (List.getElem_mem hltm)
                      have HAT := Lib.hid (cS_old hmem)
                      have HKy : Hid (keyOf Tryd.prog 9 (.string M[m]) = some (kS M[m])) := Lib.hid (keyOf_string_mk Tryd.underlying9 (HOk.out _ hmem))
                      have HMu := Lib.hid (map_below HM10.out HBu.out)
                      clear hcu hmem
                      generalize M[m] = x at *
                      go_wp2_with (at_lookup; refine wpList_lookup_own_int _ rfl _ _ 60 rfl 9 3 .i64 keyedS Tryd.underlying60 Tryd.underlying3 (zeroI _) w7.heap.size N.length _ rfl HMu.out _ _ rfl HKy.out ?_; intro cc hat hwc; have hcc := lit_inj (hat.symm.trans HAT.out); clear hat hwc; subst hcc)
                      go_roundw
                      case rel => exact ⟨m + 1, by omega, by go_num, HBu⟩
                      case measure => simp [intOf]; omega
                    · go_wp2_with fail
                      go_roundw
                      case rel => exact ⟨j + 1, by omega, by go_num, Lib.hid (HR10.out.trans (HBu.out.mono HR10.out.size))⟩
                      case measure => simp [intOf]; omega
                · go_wp2_with fail
                  go_roundw
                  case rel => exact ⟨i0 + 1, by omega, by go_num, Lib.hid (HB9.out.trans (HBt.out.mono HB9.out.size))⟩
                  case measure => simp [intOf]; omega

      · go_wp2_with fail
        go_ret
        exact ⟨rfl, HB.out⟩
end Go.Proofs.YtcgieikjpamplaaDoor
