/- A writer's literal. Conditions: the tables as laid; texts of at most 2^46 bytes. -/
import Derived.Test.YtikohamfnnlhcaaGreatDoorPcShoF
set_option linter.unusedVariables false
set_option linter.unusedSimpArgs false
namespace Go.Proofs.YtikohamfnnlhcaaGreatDoor
open Go.RowKit Go.Deep Go.Shelf

set_option maxRecDepth 100000 in
set_option maxHeartbeats 1000000 in
theorem lit_pos (w0 : World) (R : Nat) (T : List UInt8) (m : Int) (x : TLt) (A : Option Addr) (c : Nat) (L : Option Addr) (d : Nat) (E : Option Addr) (f : Nat) (W : World) (hk : x.kind = 1) (ha : rightAm x.atom = true) (hV : LtV w0 x A L E) (hS : Sht w0) (h : Wr w0 R T m W) (hl : (T ++ (txAm x.atom)).length ≤ 70368744177664) :
    Calls Tryz.prog 51 #[.pointer (some ⟨R, 0, none⟩), ltV x A c L d E f] W (GotW w0 R T (txAm x.atom) m W) := by
  have hb : Below W.heap.size W (W.alloc (.cells #[.int .i64 x.kind, .string x.atom.rel, .slice A x.atom.args.length c, .int .i64 x.op, .int .i64 x.left.op, .string x.left.t.v, .int .i64 x.left.t.k, .int .i64 x.left.t.n, .string x.left.t.s, .slice L x.left.kids.length d, .int .i64 x.right.op, .string x.right.t.v, .int .i64 x.right.t.k, .int .i64 x.right.t.n, .string x.right.t.s, .slice E x.right.kids.length f, .int .i64 x.pos] 63)) := (Below.refl _ _).alloc (Nat.le_refl _) _
  have HK : Hid (Kw w0.heap.size R W (W.alloc (.cells #[.int .i64 x.kind, .string x.atom.rel, .slice A x.atom.args.length c, .int .i64 x.op, .int .i64 x.left.op, .string x.left.t.v, .int .i64 x.left.t.k, .int .i64 x.left.t.n, .string x.left.t.s, .slice L x.left.kids.length d, .int .i64 x.right.op, .string x.right.t.v, .int .i64 x.right.t.k, .int .i64 x.right.t.n, .string x.right.t.s, .slice E x.right.kids.length f, .int .i64 x.pos] 63))) := (Kw.refl _).alloc _
  have HW := Lib.hid (h.below hb)
  have HRl : R < W.heap.size := h.lt
  have HO : Hid (Own (W.alloc (.cells #[.int .i64 x.kind, .string x.atom.rel, .slice A x.atom.args.length c, .int .i64 x.op, .int .i64 x.left.op, .string x.left.t.v, .int .i64 x.left.t.k, .int .i64 x.left.t.n, .string x.left.t.s, .slice L x.left.kids.length d, .int .i64 x.right.op, .string x.right.t.v, .int .i64 x.right.t.k, .int .i64 x.right.t.n, .string x.right.t.s, .slice E x.right.kids.length f, .int .i64 x.pos] 63)) W.heap.size 63 [.int .i64 x.kind, .string x.atom.rel, .slice A x.atom.args.length c, .int .i64 x.op, .int .i64 x.left.op, .string x.left.t.v, .int .i64 x.left.t.k, .int .i64 x.left.t.n, .string x.left.t.s, .slice L x.left.kids.length d, .int .i64 x.right.op, .string x.right.t.v, .int .i64 x.right.t.k, .int .i64 x.right.t.n, .string x.right.t.s, .slice E x.right.kids.length f, .int .i64 x.pos]) := heap_alloc_new _ _
  have HC := Lib.hid (atom_anyS x.atom A c _ ha (hV.am.pers (.of (h.base.trans (hb.mono h.base.size)))) (hS.lays.below (h.base.trans (hb.mono h.base.size))))
  have HL := Lib.hid hl
  clear hV hS h hb hl ha
  unfold amV at HC
  unfold ltV
  rw [hk] at *
  clear hk HO
  go_enter Tryz.func51, Tryz.ntmps51
  go_wp2_with fail
  refine HC.out.mono ?_
  rintro r W2 ⟨rfl, b2⟩
  have HW2 := Lib.hid ((HW.out.below b2).below ((Below.refl _ _).alloc (o := .cells #[.string (bts (txAm x.atom))] 9) (Nat.le_refl _)))
  have HK2 := Lib.hid ((HK.out.trans (Kw.of b2)).alloc (.cells #[.string (bts (txAm x.atom))] 9))
  have hR2 : R < W2.heap.size := (HW.out.below b2).lt
  have HP := Lib.hid (put1 (g := W2.heap.size)  HW2.out (heap_alloc_new W2 _) (by omega) HL.out)
  generalize txAm x.atom = X at *
  clear b2 HW HK HC HW2
  go_wp2_with fail
  refine HP.out.mono ?_
  intro r W3 hG
  obtain ⟨bv, rfl, hF⟩ := (GotW.then (X := []) (T := T) (by simp) HK2.out hG).b
  have HF := Lib.hid hF
  clear hG hF HP
  go_wp2
  go_ret
  exact HF.out
set_option maxRecDepth 100000 in
set_option maxHeartbeats 1000000 in
theorem lit_neg (w0 : World) (R : Nat) (T : List UInt8) (m : Int) (x : TLt) (A : Option Addr) (c : Nat) (L : Option Addr) (d : Nat) (E : Option Addr) (f : Nat) (W : World) (hk : x.kind = 2) (ha : rightAm x.atom = true) (hV : LtV w0 x A L E) (hS : Sht w0) (h : Wr w0 R T m W) (hl : (T ++ ([110, 111, 116, 32] ++ txAm x.atom)).length ≤ 70368744177664) :
    Calls Tryz.prog 51 #[.pointer (some ⟨R, 0, none⟩), ltV x A c L d E f] W (GotW w0 R T ([110, 111, 116, 32] ++ txAm x.atom) m W) := by
  have hb : Below W.heap.size W (W.alloc (.cells #[.int .i64 x.kind, .string x.atom.rel, .slice A x.atom.args.length c, .int .i64 x.op, .int .i64 x.left.op, .string x.left.t.v, .int .i64 x.left.t.k, .int .i64 x.left.t.n, .string x.left.t.s, .slice L x.left.kids.length d, .int .i64 x.right.op, .string x.right.t.v, .int .i64 x.right.t.k, .int .i64 x.right.t.n, .string x.right.t.s, .slice E x.right.kids.length f, .int .i64 x.pos] 63)) := (Below.refl _ _).alloc (Nat.le_refl _) _
  have HK : Hid (Kw w0.heap.size R W (W.alloc (.cells #[.int .i64 x.kind, .string x.atom.rel, .slice A x.atom.args.length c, .int .i64 x.op, .int .i64 x.left.op, .string x.left.t.v, .int .i64 x.left.t.k, .int .i64 x.left.t.n, .string x.left.t.s, .slice L x.left.kids.length d, .int .i64 x.right.op, .string x.right.t.v, .int .i64 x.right.t.k, .int .i64 x.right.t.n, .string x.right.t.s, .slice E x.right.kids.length f, .int .i64 x.pos] 63))) := (Kw.refl _).alloc _
  have HW := Lib.hid (h.below hb)
  have HRl : R < W.heap.size := h.lt
  have HO : Hid (Own (W.alloc (.cells #[.int .i64 x.kind, .string x.atom.rel, .slice A x.atom.args.length c, .int .i64 x.op, .int .i64 x.left.op, .string x.left.t.v, .int .i64 x.left.t.k, .int .i64 x.left.t.n, .string x.left.t.s, .slice L x.left.kids.length d, .int .i64 x.right.op, .string x.right.t.v, .int .i64 x.right.t.k, .int .i64 x.right.t.n, .string x.right.t.s, .slice E x.right.kids.length f, .int .i64 x.pos] 63)) W.heap.size 63 [.int .i64 x.kind, .string x.atom.rel, .slice A x.atom.args.length c, .int .i64 x.op, .int .i64 x.left.op, .string x.left.t.v, .int .i64 x.left.t.k, .int .i64 x.left.t.n, .string x.left.t.s, .slice L x.left.kids.length d, .int .i64 x.right.op, .string x.right.t.v, .int .i64 x.right.t.k, .int .i64 x.right.t.n, .string x.right.t.s, .slice E x.right.kids.length f, .int .i64 x.pos]) := heap_alloc_new _ _
  have HC := Lib.hid (atom_anyS x.atom A c _ ha (hV.am.pers (.of (h.base.trans (hb.mono h.base.size)))) (hS.lays.below (h.base.trans (hb.mono h.base.size))))
  have HL := Lib.hid hl
  clear hV hS h hb hl ha
  unfold amV at HC
  unfold ltV
  rw [hk] at *
  clear hk HO
  go_enter Tryz.func51, Tryz.ntmps51
  go_wp2_with fail
  refine HC.out.mono ?_
  rintro r W2 ⟨rfl, b2⟩
  have HW2 := Lib.hid ((HW.out.below b2).below ((Below.refl _ _).alloc (o := .cells #[.string ⟨#[110, 111, 116, 32]⟩, .string (bts (txAm x.atom))] 9) (Nat.le_refl _)))
  have HK2 := Lib.hid ((HK.out.trans (Kw.of b2)).alloc (.cells #[.string ⟨#[110, 111, 116, 32]⟩, .string (bts (txAm x.atom))] 9))
  have hR2 : R < W2.heap.size := (HW.out.below b2).lt
  have HP := Lib.hid (put2 (g := W2.heap.size) (x := [110, 111, 116, 32]) HW2.out (heap_alloc_new W2 _) (by omega) HL.out)
  generalize txAm x.atom = X at *
  clear b2 HW HK HC HW2
  go_wp2_with fail
  refine HP.out.mono ?_
  intro r W3 hG
  obtain ⟨bv, rfl, hF⟩ := (GotW.then (X := []) (T := T) (by simp) HK2.out hG).b
  have HF := Lib.hid hF
  clear hG hF HP
  go_wp2
  go_ret
  exact HF.out
theorem cmp_cases {op : Int} (h : 1 ≤ op ∧ op ≤ 6) : ∃ j : Nat, op = (j : Int) ∧ j < 7 ∧ cmpsL[j]? = some (cmpW op) := by
  rcases (show op = 1 ∨ op = 2 ∨ op = 3 ∨ op = 4 ∨ op = 5 ∨ op = 6 by omega) with rfl | rfl | rfl | rfl | rfl | rfl
  · exact ⟨1, rfl, by omega, rfl⟩
  · exact ⟨2, rfl, by omega, rfl⟩
  · exact ⟨3, rfl, by omega, rfl⟩
  · exact ⟨4, rfl, by omega, rfl⟩
  · exact ⟨5, rfl, by omega, rfl⟩
  · exact ⟨6, rfl, by omega, rfl⟩
set_option maxRecDepth 100000 in
set_option maxHeartbeats 2000000 in
theorem lit_cmp (w0 : World) (R : Nat) (T : List UInt8) (m : Int) (x : TLt) (A : Option Addr) (c : Nat) (L : Option Addr) (d : Nat) (E : Option Addr) (f : Nat) (W : World) (hk : x.kind = 3) (hop : 1 ≤ x.op ∧ x.op ≤ 6) (hrl : rightE 20 x.left = true) (hrr : rightE 20 x.right = true) (hV : LtV w0 x A L E) (hS : Sht w0) (h : Wr w0 R T m W) (hl : (T ++ (txE x.left ++ (([32] ++ (cmpW x.op ++ [32])) ++ txE x.right))).length ≤ 70368744177664) :
    Calls Tryz.prog 51 #[.pointer (some ⟨R, 0, none⟩), ltV x A c L d E f] W (GotW w0 R T (txE x.left ++ (([32] ++ (cmpW x.op ++ [32])) ++ txE x.right)) m W) := by
  have hb : Below W.heap.size W (W.alloc (.cells #[.int .i64 x.kind, .string x.atom.rel, .slice A x.atom.args.length c, .int .i64 x.op, .int .i64 x.left.op, .string x.left.t.v, .int .i64 x.left.t.k, .int .i64 x.left.t.n, .string x.left.t.s, .slice L x.left.kids.length d, .int .i64 x.right.op, .string x.right.t.v, .int .i64 x.right.t.k, .int .i64 x.right.t.n, .string x.right.t.s, .slice E x.right.kids.length f, .int .i64 x.pos] 63)) := (Below.refl _ _).alloc (Nat.le_refl _) _
  have HK : Hid (Kw w0.heap.size R W (W.alloc (.cells #[.int .i64 x.kind, .string x.atom.rel, .slice A x.atom.args.length c, .int .i64 x.op, .int .i64 x.left.op, .string x.left.t.v, .int .i64 x.left.t.k, .int .i64 x.left.t.n, .string x.left.t.s, .slice L x.left.kids.length d, .int .i64 x.right.op, .string x.right.t.v, .int .i64 x.right.t.k, .int .i64 x.right.t.n, .string x.right.t.s, .slice E x.right.kids.length f, .int .i64 x.pos] 63))) := (Kw.refl _).alloc _
  have HW := Lib.hid (h.below hb)
  have HRl : R < W.heap.size := h.lt
  have HO : Hid (Own (W.alloc (.cells #[.int .i64 x.kind, .string x.atom.rel, .slice A x.atom.args.length c, .int .i64 x.op, .int .i64 x.left.op, .string x.left.t.v, .int .i64 x.left.t.k, .int .i64 x.left.t.n, .string x.left.t.s, .slice L x.left.kids.length d, .int .i64 x.right.op, .string x.right.t.v, .int .i64 x.right.t.k, .int .i64 x.right.t.n, .string x.right.t.s, .slice E x.right.kids.length f, .int .i64 x.pos] 63)) W.heap.size 63 [.int .i64 x.kind, .string x.atom.rel, .slice A x.atom.args.length c, .int .i64 x.op, .int .i64 x.left.op, .string x.left.t.v, .int .i64 x.left.t.k, .int .i64 x.left.t.n, .string x.left.t.s, .slice L x.left.kids.length d, .int .i64 x.right.op, .string x.right.t.v, .int .i64 x.right.t.k, .int .i64 x.right.t.n, .string x.right.t.s, .slice E x.right.kids.length f, .int .i64 x.pos]) := heap_alloc_new _ _
  obtain ⟨j, hj, hj7, hjs⟩ := cmp_cases hop
  have HT := Lib.hid ((h.cell (hS.cmps.2 j _ hjs)))
  have HEl : Hid (∀ (T : List UInt8) (W : World), Wr w0 R T m W → (T ++ txE x.left).length ≤ 70368744177664 → Calls Tryz.prog 54 #[.pointer (some ⟨R, 0, none⟩), .agg #[.int .i64 x.left.op, .string x.left.t.v, .int .i64 x.left.t.k, .int .i64 x.left.t.n, .string x.left.t.s, .slice L x.left.kids.length d]] W (GotW w0 R T (txE x.left) m W)) := fun T W h1 h2 => exp_anyS 20 w0 R T m x.left L d W hrl hV.left hS h1 h2
  have HEr : Hid (∀ (T : List UInt8) (W : World), Wr w0 R T m W → (T ++ txE x.right).length ≤ 70368744177664 → Calls Tryz.prog 54 #[.pointer (some ⟨R, 0, none⟩), .agg #[.int .i64 x.right.op, .string x.right.t.v, .int .i64 x.right.t.k, .int .i64 x.right.t.n, .string x.right.t.s, .slice E x.right.kids.length f]] W (GotW w0 R T (txE x.right) m W)) := fun T W h1 h2 => exp_anyS 20 w0 R T m x.right E f W hrr hV.right hS h1 h2
  have hS9 := Lib.hid hS.cmps
  have hSj := Lib.hid hjs
  have hbne : W.heap.size ≠ R := by omega
  have hl0 := hl
  unfold ltV
  generalize txE x.left = XL at *
  generalize txE x.right = XR at *
  generalize cmpW x.op = sg at *
  obtain ⟨ZT, hZT⟩ : ∃ ZT, ZT = XL ++ (([32] ++ (sg ++ [32])) ++ XR) := ⟨_, rfl⟩
  rw [← hZT]
  have HZT := Lib.hid hZT
  simp only [List.length_append, List.length_cons, List.length_nil] at hl0
  clear hV hS h hb hl hrl hrr hop hZT hjs
  generalize x.op = xo at *
  generalize x.kind = xk at *
  subst hk hj
  have HC := Lib.hid (HEl.out T _ HW.out (by simp only [List.length_append]; omega))
  clear HEl
  go_enter Tryz.func51, Tryz.ntmps51
  go_wp2_with fail
  refine HC.out.mono ?_
  rintro r W3 ⟨T3, rfl, p1, p2, p3, w3, k3⟩
  have HO3 := Lib.hid (k3.own HO.out hbne (by decide))
  have HK3 := Lib.hid (HK.out.trans k3)
  clear HC HO HW HK HT
  cases hq : decide (((T ++ XL).length : Int) ≤ m) with
  | false =>
    have HF := Lib.hid (GotW.full (Y := ([32] ++ (sg ++ [32])) ++ XR) hq p2 p3 w3 HK3.out)
    clear hq p1 p2 p3 w3 k3 HEr
    go_wp2
    go_ret
    rw [HZT.out]
    exact HF.out
  | true =>
    have hT : T3 = T ++ XL := p1 (of_decide_eq_true hq)
    subst hT
    have HP := Lib.hid (put3 (x := [32]) (y := sg) (z := [32]) (w3.below ((Below.refl _ _).alloc (o := .cells #[.string ⟨#[32]⟩, .string (bts sg), .string ⟨#[32]⟩] 9) (Nat.le_refl _))) (heap_alloc_new _ _) (by have := w3.lt; omega) (by simp only [List.length_append, List.length_cons, List.length_nil]; omega))
    have HO4 := Lib.hid (HO3.out.alloc (.cells #[.string ⟨#[32]⟩, .string (bts sg), .string ⟨#[32]⟩] 9))
    have HK4 := Lib.hid ((Kw.refl (n := w0.heap.size) (R := R) W3).alloc (.cells #[.string ⟨#[32]⟩, .string (bts sg), .string ⟨#[32]⟩] 9))
    have ct := w3.cell (hS9.out.2 j _ hSj.out)
    have c3 := HO3.out.cell 3
    have l3 := HO3.out.lt
    simp only [List.getElem?_cons_zero, List.getElem?_cons_succ] at c3
    clear hq p1 p2 p3 w3 k3
    go_wp2_with fail
    refine HP.out.mono ?_
    rintro r W4 ⟨T4, rfl, p1, p2, p3, w4, k4⟩
    have HO5 := Lib.hid (k4.own HO4.out hbne (by decide))
    have HK5 := Lib.hid (HK4.out.trans k4)
    clear c3 l3 ct HP HO3 HO4 HK4 k4
    cases hq : decide ((((T ++ XL) ++ ([32] ++ (sg ++ [32]))).length : Int) ≤ m) with
    | false =>
      have HF := Lib.hid (GotW.then (X := XL) rfl HK3.out (GotW.full (Y := XR) hq p2 p3 w4 HK5.out))
      clear hq p1 p2 p3 w4 HEr
      go_wp2
      go_ret
      rw [HZT.out]
      exact HF.out
    | true =>
      have hT : T4 = (T ++ XL) ++ ([32] ++ (sg ++ [32])) := p1 (of_decide_eq_true hq)
      subst hT
      have HC := Lib.hid (HEr.out _ W4 w4 (by simp only [List.length_append, List.length_cons, List.length_nil]; omega))
      have c0 := HO5.out.cell 10
      have c1 := HO5.out.cell 11
      have c2 := HO5.out.cell 12
      have c3 := HO5.out.cell 13
      have c4 := HO5.out.cell 14
      have c5 := HO5.out.cell 15
      have l5 := HO5.out.lt
      simp only [List.getElem?_cons_zero, List.getElem?_cons_succ] at c0 c1 c2 c3 c4 c5
      clear hq p1 p2 p3 w4 HEr
      go_wp2_with fail
      refine HC.out.mono ?_
      intro r W5 hG
      obtain ⟨bv, rfl, hF⟩ := (GotW.then (X := XL) rfl HK3.out (GotW.then (X := [32] ++ (sg ++ [32])) rfl HK5.out hG)).b
      have HF := Lib.hid hF
      clear hG hF HC
      go_wp2
      go_ret
      rw [HZT.out]
      exact HF.out
theorem literal_anyS (w0 : World) (R : Nat) (T : List UInt8) (m : Int) (x : TLt) (A : Option Addr) (c : Nat) (L : Option Addr) (d : Nat) (E : Option Addr) (f : Nat) (W : World) (hr : rightLt x = true) (hV : LtV w0 x A L E) (hS : Sht w0) (h : Wr w0 R T m W) (hl : (T ++ txLt x).length ≤ 70368744177664) :
    Calls Tryz.prog 51 #[.pointer (some ⟨R, 0, none⟩), ltV x A c L d E f] W (GotW w0 R T (txLt x) m W) := by
  rcases rightLt_cases hr with ⟨hk | hk, ha⟩ | ⟨hk, hop, h1, h2⟩
  · have e : txLt x = txAm x.atom := by unfold txLt; rw [if_neg (by omega), if_neg (by omega)]
    rw [e] at hl ⊢
    exact lit_pos w0 R T m x A c L d E f W hk ha hV hS h hl
  · have e : txLt x = [110, 111, 116, 32] ++ txAm x.atom := by unfold txLt; rw [if_neg (by omega), if_pos hk]
    rw [e] at hl ⊢
    exact lit_neg w0 R T m x A c L d E f W hk ha hV hS h hl
  · have e : txLt x = txE x.left ++ (([32] ++ (cmpW x.op ++ [32])) ++ txE x.right) := by unfold txLt; rw [if_pos hk]; simp only [List.append_assoc]
    rw [e] at hl ⊢
    exact lit_cmp w0 R T m x A c L d E f W hk hop h1 h2 hV hS h hl
end Go.Proofs.YtikohamfnnlhcaaGreatDoor
