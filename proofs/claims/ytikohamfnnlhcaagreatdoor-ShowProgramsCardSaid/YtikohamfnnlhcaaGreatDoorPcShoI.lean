/- A writer's body and rule. Conditions: the tables as laid; texts of at most 2^46 bytes. -/
import Derived.Test.YtikohamfnnlhcaaGreatDoorPcShoG
import Derived.Test.YtikohamfnnlhcaaGreatDoorPcShoH
import Derived.Test.YtikohamfnnlhcaaGreatDoorPcTermW
import Derived.Test.YtikohamfnnlhcaaGreatDoorScM
set_option linter.unusedVariables false
set_option linter.unusedSimpArgs false
namespace Go.Proofs.YtikohamfnnlhcaaGreatDoor
open Go.RowKit Go.Deep Go.Shelf

/-- an operation whose guard says yes goes as one without a guard. -/
theorem wpList_wanted {P : Program} {ops : Array Oper} {rest : List Oper} {o : Oper} {a : Act} {w : World} {Q : Exit → Act → World → Prop} (hw : Region.wanted o (yielded ops a.tmps) = true)
    (h : wpList P ops Q ({ o with guard := none } :: rest) a w) : wpList P ops Q (o :: rest) a w := by
  unfold wpList at h ⊢
  rw [if_pos hw]
  rw [if_pos (show Region.wanted { o with guard := none } (yielded ops a.tmps) = true from rfl)] at h
  exact h
theorem txBs_split : ∀ (l : List TLt) (i k : Nat), k ≤ l.length → txBs i l = txBs i (l.take k) ++ txBs (i + k) (l.drop k)
  | l, i, 0, _ => by simp [txBs]
  | [], i, k + 1, h => by simp at h
  | x :: l, i, k + 1, h => by
    rw [List.take_succ_cons, List.drop_succ_cons, txBs, txBs, txBs_split l (i + 1) k (by simpa using h)]
    simp only [List.append_assoc]
    rw [show i + 1 + k = i + (k + 1) by omega]
theorem txBs_at {l : List TLt} {k : Nat} (h : k < l.length) : txBs 0 l = txBs 0 (l.take k) ++ (sepX k ++ (txLt l[k] ++ txBs (k + 1) (l.drop (k + 1)))) := by
  rw [txBs_split l 0 k (by omega), List.drop_eq_getElem_cons h, txBs, Nat.zero_add]
theorem ltF_list {w : World} {b o : Nat} {x : TLt} {A : Option Addr} {c : Nat} {L : Option Addr} {d : Nat} {R : Option Addr} {f : Nat} (h : LtF w b o x A c L d R f) : ∀ (i : Nat) v, (ltL x A c L d R f)[i]? = some v → w.cell? ⟨b, o + i, none⟩ = some v := by
  obtain ⟨h0, h1, h2, h3, ⟨l0, l1, l2, l3, l4, l5⟩, ⟨r0, r1, r2, r3, r4, r5⟩, h8⟩ := h
  intro i v hv
  match i, hv with
  | 0, hv => cases hv; exact h0
  | 1, hv => cases hv; exact h1
  | 2, hv => cases hv; exact h2
  | 3, hv => cases hv; exact h3
  | 4, hv => cases hv; exact l0
  | 5, hv => cases hv; exact l1
  | 6, hv => cases hv; exact l2
  | 7, hv => cases hv; exact l3
  | 8, hv => cases hv; exact l4
  | 9, hv => cases hv; exact l5
  | 10, hv => cases hv; exact r0
  | 11, hv => cases hv; exact r1
  | 12, hv => cases hv; exact r2
  | 13, hv => cases hv; exact r3
  | 14, hv => cases hv; exact r4
  | 15, hv => cases hv; exact r5
  | 16, hv => cases hv; exact h8
  | n + 17, hv => simp [ltL] at hv
set_option maxRecDepth 100000 in
set_option maxHeartbeats 2000000 in
theorem body_anyS (w0 : World) (R : Nat) (T : List UInt8) (m : Int) (A : Option Addr) (c : Nat) (l : List TLt) (W : World) (hn : l.length ≤ 8) (hr : ∀ x ∈ l, rightLt x = true) (hV : Rg 17 LtC w0 A l) (hS : Sht w0) (h : Wr w0 R T m W) (hm : (T.length : Int) ≤ m) (hl : (T ++ txBs 0 l).length ≤ 70368744177664) :
    Calls Tryz.prog 79 #[.pointer (some ⟨R, 0, none⟩), .slice A l.length c] W (GotW w0 R T (txBs 0 l) m W) := by
  have HV := Lib.hid hV
  have HR := Lib.hid hr
  have HS := Lib.hid hS
  have H := Lib.hid h
  have HM := Lib.hid hm
  have HL := Lib.hid hl
  clear hV hr hS h hm hl
  go_enter Tryz.func79, Tryz.ntmps79
  go_wp2_with fail
  go_loopw [5, 10] (fun sg i wr => ∃ k : Nat, k ≤ l.length ∧ i = .int .i64 k ∧ sg = .string (bts (sepX k)) ∧ Hid (Wr w0 R (T ++ txBs 0 (l.take k)) m wr) ∧ Hid (((T ++ txBs 0 (l.take k)).length : Int) ≤ m) ∧ Hid (Kw w0.heap.size R W wr)) (fun _ i _ => l.length - (intOf i).toNat)
  case atStart => exact ⟨0, Nat.zero_le _, rfl, rfl, Lib.hid (by simpa [txBs] using H.out), Lib.hid (by simpa [txBs] using HM.out), Lib.hid (Kw.refl _)⟩
  case round =>
    obtain ⟨k, hk, rfl, rfl, HW, HM1, HK⟩ := hrel
    by_cases hlt : k < l.length
    · obtain ⟨b, o, rfl, hbw, hc⟩ := HV.out.at_ hlt
      obtain ⟨xA, xc, xL, xd, xR, xf, hF, hVx⟩ := hc.open_
      have hrx := HR.out _ (List.getElem_mem hlt)
      have hsp := txBs_at hlt
      have hsn := txBs_snoc hlt
      have hl1 := HL.out
      rw [hsp] at hl1
      simp only [List.length_append] at hl1
      obtain ⟨cs, hcs⟩ : ∃ cs, cs = ltL l[k] xA xc xL xd xR xf := ⟨_, rfl⟩
      have HCS : Hid (∀ (i : Nat) v, cs[i]? = some v → wr.cell? ⟨b, o + k * 17 + i, none⟩ = some v) := fun i v hv => by
        rw [hcs] at hv
        exact HW.out.cell (ltF_list hF i v hv)
      have HLt : Hid (∀ (T : List UInt8) (W : World), Wr w0 R T m W → (T ++ txLt l[k]).length ≤ 70368744177664 → Calls Tryz.prog 51 #[.pointer (some ⟨R, 0, none⟩), .agg cs.toArray] W (GotW w0 R T (txLt l[k]) m W)) := fun T W h1 h2 => by
        rw [hcs]
        exact literal_anyS w0 R T m l[k] xA xc xL xd xR xf W hrx hVx HS.out h1 h2
      have HON : Hid (cs.toArray.all (·.oneCell') = true) := by show _ = _; rw [hcs]; simp [ltL, Value.oneCell']
      have hcl : cs.length = 17 := by rw [hcs]; rfl
      have HI1 : Hid ((Tryz.prog.info? 63).map (·.size) = some cs.length) := by show _ = _; rw [hcl]; exact infoLit
      have HI2 : Hid ((Tryz.prog.info? 63).map (·.size) = some cs.toArray.size) := by show _ = _; rw [List.size_toArray, hcl]; exact infoLit
      have HI3 : Hid ((17 : Nat) = cs.toArray.size) := by show _ = _; rw [List.size_toArray, hcl]
      have HSp := Lib.hid hsp
      have HSn := Lib.hid hsn
      clear hF hVx hrx hsp hsn hcs hc hbw
      generalize txLt l[k] = X at *
      generalize txBs (k + 1) (l.drop (k + 1)) = Y at *
      obtain ⟨T0, hT0⟩ : ∃ T0, T0 = txBs 0 (l.take k) := ⟨_, rfl⟩
      rw [← hT0] at HSp HSn HW HM1 hl1
      clear hT0
      have HRl := HW.out.lt
      have hbne : wr.heap.size ≠ R := by omega
      have HW1 := Lib.hid (HW.out.below ((Below.refl wr.heap.size wr).alloc (o := .cells cs.toArray 63) (Nat.le_refl _)))
      have HW2 := Lib.hid (HW1.out.below ((Below.refl (wr.alloc (.cells cs.toArray 63)).heap.size _).alloc (o := .cells #[.string (bts (sepX k))] 9) (Nat.le_refl _)))
      have HP := Lib.hid (put1 (g := wr.heap.size + 1) (x := sepX k) HW2.out (own_second wr _ _ _) (by omega) (by simp only [List.length_append]; omega))
      have HO2 : Hid (Own ((wr.alloc (.cells cs.toArray 63)).alloc (.cells #[.string (bts (sepX k))] 9)) wr.heap.size 63 cs) := Own.alloc (heap_alloc_new wr _) _
      have HK2 := Lib.hid ((HK.out.alloc (.cells cs.toArray 63)).alloc (.cells #[.string (bts (sepX k))] 9))
      have hse : ∀ k, sepX (k + 1) = [44, 32] := fun k => if_neg (by omega)
      have HSe := Lib.hid (hse k)
      clear hse
      generalize sepX k = sp at *
      clear HW HW1 HW2 HK
      go_wp2_with (first
        | (refine wpList_load_at (o := ⟨some 13, _, _, _, _, _⟩) rfl 63 _ rfl b (o + k * 17) rfl cs HCS.out _ Tryz.underlying63 rfl HI1.out ?_)
        | (refine wpList_store_new (o := ⟨none, .store 63 _ _, _, _, _, _⟩) rfl 63 _ _ rfl cs.toArray rfl rfl 63 _ HI2.out HI3.out HON.out ?_)
        | fail)
      refine HP.out.mono ?_
      rintro r W3 ⟨T3, rfl, p1, p2, p3, w3, k3⟩
      have HO3 := Lib.hid (k3.own HO2.out hbne (by decide))
      have HK3 := Lib.hid (HK2.out.trans k3)
      clear HO2 HK2 HP k3
      cases hq : decide ((((T ++ T0) ++ sp).length : Int) ≤ m) with
      | false =>
        have HF := Lib.hid (GotW.then (X := T0) rfl (Kw.refl W) (GotW.full (Y := X ++ Y) hq p2 p3 w3 HK3.out))
        clear hq p1 p2 p3 w3 HCS
        go_wp2
        go_ret
        rw [HSp.out]
        exact HF.out
      | true =>
        have hT : T3 = (T ++ T0) ++ sp := p1 (of_decide_eq_true hq)
        subst hT
        have HC := Lib.hid (HLt.out _ W3 w3 (by simp only [List.length_append]; omega))
        clear hq p1 p2 p3 w3 HCS HLt
        go_wp2_with (first
          | (refine wpList_wanted (o := ⟨some 21, _, _, _, _, _⟩) (by rfl) ?_; refine wpList_load_row (o := ⟨some 21, _, _, _, _, _⟩) rfl 63 _ rfl wr.heap.size rfl 63 cs.toArray (0, 0) _ HO3.out Tryz.underlying63 rfl HI2.out ?_)
          | fail)
        refine HC.out.mono ?_
        rintro r W4 ⟨T4, rfl, p1, p2, p3, w4, k4⟩
        have HK4 := Lib.hid (HK3.out.trans k4)
        clear HC HO3
        cases hq : decide (((((T ++ T0) ++ sp) ++ X).length : Int) ≤ m) with
        | false =>
          have HF := Lib.hid (GotW.then (X := T0) rfl (Kw.refl W) (GotW.then (X := sp) rfl HK3.out (GotW.full (Y := Y) hq p2 p3 w4 k4)))
          clear hq p1 p2 p3 w4 k4
          go_wp2
          go_ret
          rw [HSp.out]
          exact HF.out
        | true =>
          have hT : T4 = ((T ++ T0) ++ sp) ++ X := p1 (of_decide_eq_true hq)
          have hle := of_decide_eq_true hq
          have he : T ++ txBs 0 (l.take (k + 1)) = ((T ++ T0) ++ sp) ++ X := by rw [HSn.out]; simp only [List.append_assoc]
          rw [← he] at hT hle
          rw [hT] at w4
          have HW4 := Lib.hid w4
          have HM4 := Lib.hid hle
          clear hq p1 p2 p3 k4 hT w4 hle he
          go_wp2_with fail
          go_roundw
          case rel => exact ⟨k + 1, by omega, by go_num, by rw [HSe.out], HW4, HM4, HK4⟩
          case measure => simp [intOf]; omega
    · have hkl : k = l.length := by omega
      subst hkl
      rw [List.take_length] at HW HM1
      go_wp2_with fail
      go_ret
      exact ⟨_, by rw [decide_eq_true HM1.out]; rfl, fun _ => rfl, fun h => absurd HM1.out h, Nat.le_refl _, HW.out, HK.out⟩
set_option maxRecDepth 100000 in
set_option maxHeartbeats 2000000 in
theorem rule_w (w0 : World) (R : Nat) (T : List UInt8) (m : Int) (r : TRu) (A : Option Addr) (c : Nat) (B : Option Addr) (d : Nat) (W : World) (hr : rightRu r = true) (hV : RuV w0 r A B) (hS : Sht w0) (h : Wr w0 R T m W) (hl : (T ++ txRu r).length ≤ 70368744177664) :
    Calls Tryz.prog 48 #[.pointer (some ⟨R, 0, none⟩), ruV r A c B d] W (GotW w0 R T (txRu r) m W) := by
  obtain ⟨_, _, hn, hbr⟩ := rightRu_parts hr
  have hb : Below W.heap.size W (W.alloc (.cells #[.string r.head.rel, .slice A r.head.args.length c, .int .i64 r.agg, .int .i64 r.col, .slice B r.body.length d, .int .i64 r.pos] 52)) := (Below.refl _ _).alloc (Nat.le_refl _) _
  have HK : Hid (Kw w0.heap.size R W (W.alloc (.cells #[.string r.head.rel, .slice A r.head.args.length c, .int .i64 r.agg, .int .i64 r.col, .slice B r.body.length d, .int .i64 r.pos] 52))) := (Kw.refl _).alloc _
  have hW1 := h.below hb
  have HW := Lib.hid hW1
  have HRl : R < W.heap.size := h.lt
  have hbne : W.heap.size ≠ R := by omega
  have HO : Hid (Own (W.alloc (.cells #[.string r.head.rel, .slice A r.head.args.length c, .int .i64 r.agg, .int .i64 r.col, .slice B r.body.length d, .int .i64 r.pos] 52)) W.heap.size 52 [.string r.head.rel, .slice A r.head.args.length c, .int .i64 r.agg, .int .i64 r.col, .slice B r.body.length d, .int .i64 r.pos]) := heap_alloc_new _ _
  have HC := Lib.hid (head_anyS r A c B d _ hr (hV.pers hW1.pers) (hS.lays.below hW1.base) (hS.aggs.below hW1.base))
  have HBo : Hid (∀ (T : List UInt8) (W : World), Wr w0 R T m W → (T.length : Int) ≤ m → (T ++ txBs 0 r.body).length ≤ 70368744177664 → Calls Tryz.prog 79 #[.pointer (some ⟨R, 0, none⟩), .slice B r.body.length d] W (GotW w0 R T (txBs 0 r.body) m W)) := fun T W h1 h2 h3 => body_anyS w0 R T m B d r.body W hn hbr hV.row hS h1 h2 h3
  have hl0 := hl
  unfold txRu at hl0 ⊢
  unfold ruV at HC ⊢
  generalize txHd r = XH at *
  generalize txBs 0 r.body = XB at *
  simp only [List.length_append, List.length_cons, List.length_nil] at hl0
  obtain ⟨ZT, hZT⟩ : ∃ ZT, ZT = XH ++ (XB ++ [46]) := ⟨_, rfl⟩
  rw [← hZT]
  have HZT := Lib.hid hZT
  clear hV hS h hb hl hr hn hbr hW1 hZT
  go_enter Tryz.func48, Tryz.ntmps48
  go_wp2_with fail
  refine HC.out.mono ?_
  rintro q W2 ⟨rfl, b2⟩
  have HW2 := Lib.hid ((HW.out.below b2).below ((Below.refl _ _).alloc (o := .cells #[.string (bts XH)] 9) (Nat.le_refl _)))
  have HK2 := Lib.hid ((HK.out.trans (Kw.of b2)).alloc (.cells #[.string (bts XH)] 9))
  have HO2 := Lib.hid ((HO.out.below b2).alloc (.cells #[.string (bts XH)] 9))
  have hR2 : R < W2.heap.size := (HW.out.below b2).lt
  have HP := Lib.hid (put1 (g := W2.heap.size) HW2.out (heap_alloc_new W2 _) (by omega) (by simp only [List.length_append]; omega))
  clear b2 HW HK HC HW2 HO
  go_wp2_with fail
  refine HP.out.mono ?_
  rintro q W3 ⟨T3, rfl, p1, p2, p3, w3, k3⟩
  have HO3 := Lib.hid (k3.own HO2.out hbne (by decide))
  have HK3 := Lib.hid (HK2.out.trans k3)
  clear HO2 HK2 HP k3
  cases hq : decide (((T ++ XH).length : Int) ≤ m) with
  | false =>
    have HF := Lib.hid (GotW.full (Y := XB ++ [46]) hq p2 p3 w3 HK3.out)
    clear hq p1 p2 p3 w3
    go_wp2
    go_ret
    rw [HZT.out]
    exact HF.out
  | true =>
    have hT : T3 = T ++ XH := p1 (of_decide_eq_true hq)
    subst hT
    have HC := Lib.hid (HBo.out _ W3 w3 (of_decide_eq_true hq) (by simp only [List.length_append]; omega))
    have c4 := HO3.out.cell 4
    have l4 := HO3.out.lt
    simp only [List.getElem?_cons_zero, List.getElem?_cons_succ] at c4
    clear hq p1 p2 p3 w3 HBo
    go_wp2_with fail
    refine HC.out.mono ?_
    rintro q W4 ⟨T4, rfl, p1, p2, p3, w4, k4⟩
    clear HC HO3 c4 l4
    cases hq : decide ((((T ++ XH) ++ XB).length : Int) ≤ m) with
    | false =>
      have HF := Lib.hid (GotW.then (X := XH) rfl HK3.out (GotW.full (Y := [46]) hq p2 p3 w4 k4))
      clear hq p1 p2 p3 w4 k4
      go_wp2
      go_ret
      rw [HZT.out]
      exact HF.out
    | true =>
      have hT : T4 = (T ++ XH) ++ XB := p1 (of_decide_eq_true hq)
      subst hT
      have HP := Lib.hid (put1 (x := [46]) (w4.below ((Below.refl _ _).alloc (o := .cells #[.string ⟨#[46]⟩] 9) (Nat.le_refl _))) (heap_alloc_new _ _) (by have := w4.lt; omega) (by simp only [List.length_append, List.length_cons, List.length_nil]; omega))
      have HK4 := Lib.hid (k4.alloc (.cells #[.string ⟨#[46]⟩] 9))
      clear hq p1 p2 p3 w4 k4
      go_wp2_with fail
      refine HP.out.mono ?_
      intro q W5 hG
      obtain ⟨bv, rfl, hF⟩ := (GotW.then (X := XH) rfl HK3.out (GotW.then (X := XB) rfl HK4.out hG)).b
      have HF := Lib.hid hF
      clear hG hF HP HK4
      go_wp2
      go_ret
      rw [HZT.out]
      exact HF.out
end Go.Proofs.YtikohamfnnlhcaaGreatDoor
