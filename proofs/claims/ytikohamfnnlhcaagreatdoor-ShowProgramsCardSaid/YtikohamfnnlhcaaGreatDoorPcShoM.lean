/- The document's texts of literals and rules. Conditions: right ones. -/
import Derived.Test.YtikohamfnnlhcaaGreatDoorPcShoL
import Derived.Test.YtikohamfnnlhcaaGreatDoorScM
import Derived.Test.YtikohamfnnlhcaaGreatDoorPcShoI
set_option linter.unusedVariables false
set_option linter.unusedSimpArgs false
namespace Go.Proofs.YtikohamfnnlhcaaGreatDoor
open Go.RowKit Go.Deep Go.Shelf

set_option maxRecDepth 100000 in
set_option maxHeartbeats 1000000 in
theorem rxLt_pos (x : TLt) (A : Option Addr) (c : Nat) (L : Option Addr) (d : Nat) (E : Option Addr) (f : Nat) (w : World) (hk : x.kind = 1) (ha : rightAm x.atom = true) (hV : LtV w x A L E) :
    Calls Tryz.prog 27 #[ltV x A c L d E f] w fun r w' => r = .returned (.string (bts (txAm x.atom))) ∧ Below w.heap.size w w' := by
  have hb : Below w.heap.size w (w.alloc (.cells #[.int .i64 x.kind, .string x.atom.rel, .slice A x.atom.args.length c, .int .i64 x.op, .int .i64 x.left.op, .string x.left.t.v, .int .i64 x.left.t.k, .int .i64 x.left.t.n, .string x.left.t.s, .slice L x.left.kids.length d, .int .i64 x.right.op, .string x.right.t.v, .int .i64 x.right.t.k, .int .i64 x.right.t.n, .string x.right.t.s, .slice E x.right.kids.length f, .int .i64 x.pos] 77)) := (Below.refl _ _).alloc (Nat.le_refl _) _
  have HB := Lib.hid hb
  have HC := Lib.hid (rxAt x.atom 0 0 A c (w.alloc (.cells #[.int .i64 x.kind, .string x.atom.rel, .slice A x.atom.args.length c, .int .i64 x.op, .int .i64 x.left.op, .string x.left.t.v, .int .i64 x.left.t.k, .int .i64 x.left.t.n, .string x.left.t.s, .slice L x.left.kids.length d, .int .i64 x.right.op, .string x.right.t.v, .int .i64 x.right.t.k, .int .i64 x.right.t.n, .string x.right.t.s, .slice E x.right.kids.length f, .int .i64 x.pos] 77)) ha (.inl rfl) (by omega) (hV.am.below hb))
  rw [txAt_am] at HC
  have hl := rightAm_len ha
  have hsz : (bts (txAm x.atom)).size ≤ 300 := by rw [bts_size]; exact hl
  unfold amV at HC
  unfold ltV
  obtain ⟨ZT, hZT⟩ : ∃ ZT, ZT = bts (txAm x.atom) := ⟨_, rfl⟩
  have HZ := Lib.hid hZT
  rw [← hZT]
  generalize x.kind = xk at *
  subst hk
  clear hV hb hZT hl ha
  have HZ2 : Hid (ZT = bts (txAm x.atom)) := HZ
  clear HZ
  generalize bts (txAm x.atom) = X at *
  go_enter Tryz.func27, Tryz.ntmps27
  go_wp2_with fail
  refine HC.out.mono ?_
  rintro r w2 ⟨rfl, b2⟩
  have HF := Lib.hid (HB.out.trans (b2.mono HB.out.size))
  clear b2 HC HB
  go_wp2
  go_ret
  exact ⟨ret_str HZ2.out.symm, HF.out⟩
set_option maxRecDepth 100000 in
set_option maxHeartbeats 1000000 in
theorem rxLt_neg (x : TLt) (A : Option Addr) (c : Nat) (L : Option Addr) (d : Nat) (E : Option Addr) (f : Nat) (w : World) (hk : x.kind = 2) (ha : rightAm x.atom = true) (hV : LtV w x A L E) :
    Calls Tryz.prog 27 #[ltV x A c L d E f] w fun r w' => r = .returned (.string (bts ([110, 111, 116, 32] ++ txAm x.atom))) ∧ Below w.heap.size w w' := by
  have hb : Below w.heap.size w (w.alloc (.cells #[.int .i64 x.kind, .string x.atom.rel, .slice A x.atom.args.length c, .int .i64 x.op, .int .i64 x.left.op, .string x.left.t.v, .int .i64 x.left.t.k, .int .i64 x.left.t.n, .string x.left.t.s, .slice L x.left.kids.length d, .int .i64 x.right.op, .string x.right.t.v, .int .i64 x.right.t.k, .int .i64 x.right.t.n, .string x.right.t.s, .slice E x.right.kids.length f, .int .i64 x.pos] 77)) := (Below.refl _ _).alloc (Nat.le_refl _) _
  have HB := Lib.hid hb
  have HC := Lib.hid (rxAt x.atom 0 0 A c (w.alloc (.cells #[.int .i64 x.kind, .string x.atom.rel, .slice A x.atom.args.length c, .int .i64 x.op, .int .i64 x.left.op, .string x.left.t.v, .int .i64 x.left.t.k, .int .i64 x.left.t.n, .string x.left.t.s, .slice L x.left.kids.length d, .int .i64 x.right.op, .string x.right.t.v, .int .i64 x.right.t.k, .int .i64 x.right.t.n, .string x.right.t.s, .slice E x.right.kids.length f, .int .i64 x.pos] 77)) ha (.inl rfl) (by omega) (hV.am.below hb))
  rw [txAt_am] at HC
  have hl := rightAm_len ha
  have hsz : (bts (txAm x.atom)).size ≤ 300 := by rw [bts_size]; exact hl
  unfold amV at HC
  unfold ltV
  obtain ⟨ZT, hZT⟩ : ∃ ZT, ZT = bts ([110, 111, 116, 32] ++ txAm x.atom) := ⟨_, rfl⟩
  have HZ := Lib.hid hZT
  rw [← hZT]
  generalize x.kind = xk at *
  subst hk
  clear hV hb hZT hl ha
  have HZ2 : Hid (ZT = ⟨#[110, 111, 116, 32]⟩ ++ bts (txAm x.atom)) := by show _ = _; rw [HZ.out, ← bts_app]
  clear HZ
  generalize bts (txAm x.atom) = X at *
  go_enter Tryz.func27, Tryz.ntmps27
  go_wp2_with fail
  refine HC.out.mono ?_
  rintro r w2 ⟨rfl, b2⟩
  have HF := Lib.hid (HB.out.trans (b2.mono HB.out.size))
  clear b2 HC HB
  go_wp2
  go_ret
  exact ⟨ret_str HZ2.out.symm, HF.out⟩
def rlD (k : Nat) : Nat := ([6, 7, 8, 9, 10, 11, 12, 13, 14, 15, 16, 17, 18, 2] : List Nat).getD k 0
theorem rl_inj : ∀ i j, i < 14 → j < 14 → rlD i = rlD j → i = j := inj_of (by kernel_rfl)
theorem rl_lt : ∀ k, k < 14 → rlD k < 29 := lt_of (n := 29) (by kernel_rfl)
theorem rl_fr {d : Nat → Bool} (t : Nat) (h : ((List.range 14).all fun k => decide (t ≠ rlD k)) = true) : ∀ k, k < 14 → d k = true → t ≠ rlD k := fun k hk _ => of_decide_eq_true (List.all_eq_true.1 h k (List.mem_range.2 hk))
def rlV (b q : Nat) (TX cw TY : ByteArray) (ls rs : List Value) (bx : Nat) : Nat → Value := fun k => if k = 3 then .slice (some ⟨bx, 0, none⟩) 7 7 else if k = 6 then .pointer (some ⟨bx, q, none⟩) else if k = 0 then .pointer (some ⟨b, 4, none⟩) else if k = 1 then .agg ls.toArray else if k = 2 then .string TX else if k = 4 then .pointer (some ⟨b, 3, none⟩) else if k = 5 then .int .i64 (q : Int) else if k = 7 then .string cw else if k = 8 then .string (TX ++ cw) else if k = 9 then .pointer (some ⟨b, 10, none⟩) else if k = 10 then .agg rs.toArray else if k = 11 then .string TY else if k = 12 then .string (TX ++ cw ++ TY) else .string (TX ++ cw ++ TY)
theorem rl_same {b q : Nat} {TX cw TY : ByteArray} {ls rs : List Value} {bx bx' : Nat} (k : Nat) (h1 : k ≠ 3) (h2 : k ≠ 6) : rlV b q TX cw TY ls rs bx k = rlV b q TX cw TY ls rs bx' k := by
  simp only [rlV, if_neg h1, if_neg h2]
def cmC : List Value := [.string ⟨#[]⟩, .string ⟨#[32, 61, 32]⟩, .string ⟨#[32, 33, 61, 32]⟩, .string ⟨#[32, 60, 32]⟩, .string ⟨#[32, 60, 61, 32]⟩, .string ⟨#[32, 62, 32]⟩, .string ⟨#[32, 62, 61, 32]⟩]
theorem cmC_at {q : Nat} {a : Int} (hq : a = (q : Int)) (h : 1 ≤ a ∧ a ≤ 6) : cmC[q]? = some (.string (bts ([32] ++ (cmpW a ++ [32])))) := by
  rcases (show a = 1 ∨ a = 2 ∨ a = 3 ∨ a = 4 ∨ a = 5 ∨ a = 6 by omega) with rfl | rfl | rfl | rfl | rfl | rfl
  · obtain rfl : q = 1 := by omega
    rfl
  · obtain rfl : q = 2 := by omega
    rfl
  · obtain rfl : q = 3 := by omega
    rfl
  · obtain rfl : q = 4 := by omega
    rfl
  · obtain rfl : q = 5 := by omega
    rfl
  · obtain rfl : q = 6 := by omega
    rfl
set_option maxRecDepth 100000 in
set_option maxHeartbeats 4000000 in
theorem rxLt_cmp (x : TLt) (A : Option Addr) (c : Nat) (L : Option Addr) (d : Nat) (E : Option Addr) (f : Nat) (w : World) (hk : x.kind = 3) (hop : 1 ≤ x.op ∧ x.op ≤ 6) (hrl : rightE 20 x.left = true) (hrr : rightE 20 x.right = true) (hV : LtV w x A L E) :
    Calls Tryz.prog 27 #[ltV x A c L d E f] w fun r w' => r = .returned (.string (bts (txE x.left ++ (([32] ++ (cmpW x.op ++ [32])) ++ txE x.right)))) ∧ Below w.heap.size w w' := by
  have mixed : Tryz.prog.follows .mixedOrders = true := by kernel_rfl
  have hb : Below w.heap.size w (w.alloc (.cells #[.int .i64 x.kind, .string x.atom.rel, .slice A x.atom.args.length c, .int .i64 x.op, .int .i64 x.left.op, .string x.left.t.v, .int .i64 x.left.t.k, .int .i64 x.left.t.n, .string x.left.t.s, .slice L x.left.kids.length d, .int .i64 x.right.op, .string x.right.t.v, .int .i64 x.right.t.k, .int .i64 x.right.t.n, .string x.right.t.s, .slice E x.right.kids.length f, .int .i64 x.pos] 77)) := (Below.refl _ _).alloc (Nat.le_refl _) _
  have HB := Lib.hid hb
  have HO : Hid (Own (w.alloc (.cells #[.int .i64 x.kind, .string x.atom.rel, .slice A x.atom.args.length c, .int .i64 x.op, .int .i64 x.left.op, .string x.left.t.v, .int .i64 x.left.t.k, .int .i64 x.left.t.n, .string x.left.t.s, .slice L x.left.kids.length d, .int .i64 x.right.op, .string x.right.t.v, .int .i64 x.right.t.k, .int .i64 x.right.t.n, .string x.right.t.s, .slice E x.right.kids.length f, .int .i64 x.pos] 77)) w.heap.size 77 [.int .i64 x.kind, .string x.atom.rel, .slice A x.atom.args.length c, .int .i64 x.op, .int .i64 x.left.op, .string x.left.t.v, .int .i64 x.left.t.k, .int .i64 x.left.t.n, .string x.left.t.s, .slice L x.left.kids.length d, .int .i64 x.right.op, .string x.right.t.v, .int .i64 x.right.t.k, .int .i64 x.right.t.n, .string x.right.t.s, .slice E x.right.kids.length f, .int .i64 x.pos]) := heap_alloc_new _ _
  obtain ⟨ls, hls⟩ : ∃ ls, ls = exLS x.left L d := ⟨_, rfl⟩
  obtain ⟨rs, hrs⟩ : ∃ rs, rs = exLS x.right E f := ⟨_, rfl⟩
  have lsL : ls.length = 6 := by rw [hls]; rfl
  have rsL : rs.length = 6 := by rw [hrs]; rfl
  have HLC : Hid (∀ (i : Nat) v, ls[i]? = some v → (w.alloc (.cells #[.int .i64 x.kind, .string x.atom.rel, .slice A x.atom.args.length c, .int .i64 x.op, .int .i64 x.left.op, .string x.left.t.v, .int .i64 x.left.t.k, .int .i64 x.left.t.n, .string x.left.t.s, .slice L x.left.kids.length d, .int .i64 x.right.op, .string x.right.t.v, .int .i64 x.right.t.k, .int .i64 x.right.t.n, .string x.right.t.s, .slice E x.right.kids.length f, .int .i64 x.pos] 77)).cell? ⟨w.heap.size, 4 + i, none⟩ = some v) := by
    rw [hls]
    exact exLS_cells (HO.out.cell 4) (HO.out.cell 5) (HO.out.cell 6) (HO.out.cell 7) (HO.out.cell 8) (HO.out.cell 9)
  have HRC : Hid (∀ (i : Nat) v, rs[i]? = some v → (w.alloc (.cells #[.int .i64 x.kind, .string x.atom.rel, .slice A x.atom.args.length c, .int .i64 x.op, .int .i64 x.left.op, .string x.left.t.v, .int .i64 x.left.t.k, .int .i64 x.left.t.n, .string x.left.t.s, .slice L x.left.kids.length d, .int .i64 x.right.op, .string x.right.t.v, .int .i64 x.right.t.k, .int .i64 x.right.t.n, .string x.right.t.s, .slice E x.right.kids.length f, .int .i64 x.pos] 77)).cell? ⟨w.heap.size, 10 + i, none⟩ = some v) := by
    rw [hrs]
    exact exLS_cells (HO.out.cell 10) (HO.out.cell 11) (HO.out.cell 12) (HO.out.cell 13) (HO.out.cell 14) (HO.out.cell 15)
  obtain ⟨TX, hTX⟩ : ∃ TX, TX = bts (txE x.left) := ⟨_, rfl⟩
  obtain ⟨TY, hTY⟩ : ∃ TY, TY = bts (txE x.right) := ⟨_, rfl⟩
  obtain ⟨cw, hcwq⟩ : ∃ cw, cw = bts ([32] ++ (cmpW x.op ++ [32])) := ⟨_, rfl⟩
  have HCx : Hid (∀ W, Below (w.alloc (.cells #[.int .i64 x.kind, .string x.atom.rel, .slice A x.atom.args.length c, .int .i64 x.op, .int .i64 x.left.op, .string x.left.t.v, .int .i64 x.left.t.k, .int .i64 x.left.t.n, .string x.left.t.s, .slice L x.left.kids.length d, .int .i64 x.right.op, .string x.right.t.v, .int .i64 x.right.t.k, .int .i64 x.right.t.n, .string x.right.t.s, .slice E x.right.kids.length f, .int .i64 x.pos] 77)).heap.size (w.alloc (.cells #[.int .i64 x.kind, .string x.atom.rel, .slice A x.atom.args.length c, .int .i64 x.op, .int .i64 x.left.op, .string x.left.t.v, .int .i64 x.left.t.k, .int .i64 x.left.t.n, .string x.left.t.s, .slice L x.left.kids.length d, .int .i64 x.right.op, .string x.right.t.v, .int .i64 x.right.t.k, .int .i64 x.right.t.n, .string x.right.t.s, .slice E x.right.kids.length f, .int .i64 x.pos] 77)) W → Calls Tryz.prog 30 #[.agg ls.toArray] W fun r w' => r = .returned (.string TX) ∧ Below W.heap.size W w') := fun W hW => by
    rw [hls, hTX]
    exact rxEx 20 (by omega) x.left L d W hrl ((hV.left.below hb).below hW)
  have HCy : Hid (∀ W, Below (w.alloc (.cells #[.int .i64 x.kind, .string x.atom.rel, .slice A x.atom.args.length c, .int .i64 x.op, .int .i64 x.left.op, .string x.left.t.v, .int .i64 x.left.t.k, .int .i64 x.left.t.n, .string x.left.t.s, .slice L x.left.kids.length d, .int .i64 x.right.op, .string x.right.t.v, .int .i64 x.right.t.k, .int .i64 x.right.t.n, .string x.right.t.s, .slice E x.right.kids.length f, .int .i64 x.pos] 77)).heap.size (w.alloc (.cells #[.int .i64 x.kind, .string x.atom.rel, .slice A x.atom.args.length c, .int .i64 x.op, .int .i64 x.left.op, .string x.left.t.v, .int .i64 x.left.t.k, .int .i64 x.left.t.n, .string x.left.t.s, .slice L x.left.kids.length d, .int .i64 x.right.op, .string x.right.t.v, .int .i64 x.right.t.k, .int .i64 x.right.t.n, .string x.right.t.s, .slice E x.right.kids.length f, .int .i64 x.pos] 77)) W → Calls Tryz.prog 30 #[.agg rs.toArray] W fun r w' => r = .returned (.string TY) ∧ Below W.heap.size W w') := fun W hW => by
    rw [hrs, hTY]
    exact rxEx 20 (by omega) x.right E f W hrr ((hV.right.below hb).below hW)
  have l20 := bE_20
  have hxs' : TX.size ≤ 41000000 := by rw [hTX, bts_size]; have := rightE_len 20 x.left hrl; omega
  have hys' : TY.size ≤ 41000000 := by rw [hTY, bts_size]; have := rightE_len 20 x.right hrr; omega
  have hcs' : cw.size ≤ 4 := by rw [hcwq, bts_size]; have := cmp_len x.op; simp only [List.length_append, List.length_cons, List.length_nil]; omega
  have hcw := cmC_at (q := x.op.toNat) (by omega) hop
  rw [← hcwq] at hcw
  obtain ⟨ZT, hZT⟩ : ∃ ZT, ZT = bts (txE x.left ++ (([32] ++ (cmpW x.op ++ [32])) ++ txE x.right)) := ⟨_, rfl⟩
  have HZ : Hid (TX ++ cw ++ TY = ZT) := by
    show _ = _
    rw [hTX, hTY, hcwq, hZT, bts_app, bts_app]
    simp only [List.append_assoc]
  rw [← hZT]
  have hq : x.op = (x.op.toNat : Int) := by omega
  have hq7 : x.op.toNat < 7 := by omega
  have p0 := HO.out.cell 0
  have p3 := HO.out.cell 3
  have pl := HO.out.lt
  simp only [List.getElem?_cons_zero, List.getElem?_cons_succ] at p0 p3
  unfold ltV
  clear hV hb hls hrs hTX hTY hcwq hZT hrl hrr hop l20 HO
  generalize x.op.toNat = q at *
  generalize x.op = xo at *
  generalize x.kind = xk at *
  subst hk hq
  obtain ⟨w1, hw1⟩ : ∃ w1, w1 = (w.alloc (.cells #[.int .i64 3, .string x.atom.rel, .slice A x.atom.args.length c, .int .i64 (q : Int), .int .i64 x.left.op, .string x.left.t.v, .int .i64 x.left.t.k, .int .i64 x.left.t.n, .string x.left.t.s, .slice L x.left.kids.length d, .int .i64 x.right.op, .string x.right.t.v, .int .i64 x.right.t.k, .int .i64 x.right.t.n, .string x.right.t.s, .slice E x.right.kids.length f, .int .i64 x.pos] 77)) := ⟨_, rfl⟩
  obtain ⟨b, hbb⟩ : ∃ b, b = w.heap.size := ⟨_, rfl⟩
  rw [← hw1] at HB HLC HRC HCx HCy p0 p3 pl
  rw [← hbb] at HLC HRC p0 p3 pl
  go_enter Tryz.func27, Tryz.ntmps27
  go_wp2_with fail
  rw [← hw1]
  repeat rw [show (Value.pointer (some ⟨w.heap.size, 0, none⟩)) = .pointer (some ⟨b, 0, none⟩) by rw [hbb]]
  clear hw1 hbb
  rename_i K1 hK1
  refine wp_region_cl (n := 14) (J := fun a0 dd u w' => ∃ bx, SJ 14 3 29 rlD w1 (rlV b q TX cw TY ls rs) 9 cmC a0 dd u bx w') mixed rfl ?hac ?hg ?h0 ?hstep ?hend
  case hac => exact ac_of' (by kernel_rfl)
  case hg => exact guard_of (by kernel_rfl)
  case h0 => exact ⟨0, SJ.start rfl (Below.refl _ _).drew⟩
  case hstep =>
    intro i oo dd a w2 hi ho hdi hdep hcl hJ K hK
    obtain ⟨bx, hJ⟩ := hJ
    match i, hi with
    | 0, _ =>
      simp only [List.getElem?_toArray, List.getElem?_cons_zero, List.getElem?_cons_succ, Option.some.injEq] at ho
      subst ho
      have h1 : a.tmps.getD 1 undef = .pointer (some ⟨b, 0, none⟩) := (hJ.fr 1 (rl_fr 1 (by decide))).trans rfl
      refine mk_val (v := .pointer (some ⟨b, 4, none⟩)) (w' := w2) (by simp only [execOp, Act.eval, h1]; kernel_rfl) (hK _ _ ⟨bx, hJ.step rl_inj rl_lt (i := 0) (by omega) (by decide) rfl (Below.refl _ _)⟩)
    | 1, _ =>
      simp only [List.getElem?_toArray, List.getElem?_cons_zero, List.getElem?_cons_succ, Option.some.injEq] at ho
      subst ho
      have h1 : a.tmps.getD 6 undef = .pointer (some ⟨b, 4, none⟩) := hJ.got 0 (by omega) (hdep ⟨0, .data⟩ (by simp) rfl)
      refine mk_load (v := .agg ls.toArray) 75 (.tmp 6) rfl h1 (run_loadVar_at w2 b (4) 75 ls _ (fun i v hv => hJ.cell (HLC.out i v hv)) Tryz.underlying75 rfl (by rw [lsL]; exact infoRE6)) (hK _ _ ⟨bx, hJ.step rl_inj rl_lt (i := 1) (by omega) (by decide) rfl (Below.refl _ _)⟩)
    | 2, _ =>
      simp only [List.getElem?_toArray, List.getElem?_cons_zero, List.getElem?_cons_succ, Option.some.injEq] at ho
      subst ho
      have h1 : a.tmps.getD 7 undef = .agg ls.toArray := hJ.got 1 (by omega) (hdep ⟨1, .data⟩ (by simp) rfl)
      refine mk_call (f := 30) (args := #[.agg ls.toArray]) (by simp only [execOp, resolve, Act.eval, List.map_toArray, List.map_cons, List.map_nil, h1] <;> kernel_rfl) ((HCx.out w2 hJ.low).mono ?_)
      rintro e w' ⟨rfl, hb'⟩
      exact ⟨_, rfl, hK _ _ ⟨bx, hJ.step rl_inj rl_lt (i := 2) (by omega) (by decide) rfl hb'⟩⟩
    | 3, _ =>
      simp only [List.getElem?_toArray, List.getElem?_cons_zero, List.getElem?_cons_succ, Option.some.injEq] at ho
      subst ho
      have hni : dd 6 = false := by
        cases hz : dd 6 with
        | false => rfl
        | true => have := hcl 6 _ rfl hz ⟨3, .data⟩ (by simp) rfl; rw [hdi] at this; cases this
      refine mk_val (v := .slice (some ⟨w2.heap.size, 0, none⟩) 7 7) (w' := w2.alloc (.cells ([.string ⟨#[]⟩, .string ⟨#[32, 61, 32]⟩, .string ⟨#[32, 33, 61, 32]⟩, .string ⟨#[32, 60, 32]⟩, .string ⟨#[32, 60, 61, 32]⟩, .string ⟨#[32, 62, 32]⟩, .string ⟨#[32, 62, 61, 32]⟩] : List Value).toArray 9)) ?_ (hK _ _ ⟨w2.heap.size, hJ.build rl_inj rl_lt (by omega) hdi rfl (fun k hk hdk => rl_same k (fun e => by rw [e] at hdk; rw [hdi] at hdk; cases hdk) (fun e => by rw [e] at hdk; rw [hni] at hdk; cases hdk))⟩)
      simp only [execOp, Act.eval, List.map_toArray, List.map_cons, List.map_nil]
      kernel_rfl
    | 4, _ =>
      simp only [List.getElem?_toArray, List.getElem?_cons_zero, List.getElem?_cons_succ, Option.some.injEq] at ho
      subst ho
      have h1 : a.tmps.getD 1 undef = .pointer (some ⟨b, 0, none⟩) := (hJ.fr 1 (rl_fr 1 (by decide))).trans rfl
      refine mk_val (v := .pointer (some ⟨b, 3, none⟩)) (w' := w2) (by simp only [execOp, Act.eval, h1]; kernel_rfl) (hK _ _ ⟨bx, hJ.step rl_inj rl_lt (i := 4) (by omega) (by decide) rfl (Below.refl _ _)⟩)
    | 5, _ =>
      simp only [List.getElem?_toArray, List.getElem?_cons_zero, List.getElem?_cons_succ, Option.some.injEq] at ho
      subst ho
      have h1 : a.tmps.getD 10 undef = .pointer (some ⟨b, 3, none⟩) := hJ.got 4 (by omega) (hdep ⟨4, .data⟩ (by simp) rfl)
      refine mk_load (v := .int .i64 (q : Int)) 3 (.tmp 10) rfl h1 (load_one w2 b (3) 3 _ _ (hJ.cell p3) Tryz.underlying3 rfl) (hK _ _ ⟨bx, hJ.step rl_inj rl_lt (i := 5) (by omega) (by decide) rfl (Below.refl _ _)⟩)
    | 6, _ =>
      simp only [List.getElem?_toArray, List.getElem?_cons_zero, List.getElem?_cons_succ, Option.some.injEq] at ho
      subst ho
      have h1 : a.tmps.getD 9 undef = .slice (some ⟨bx, 0, none⟩) 7 7 := hJ.got 3 (by omega) (hdep ⟨3, .data⟩ (by simp) rfl)
      have h2 : a.tmps.getD 11 undef = .int .i64 (q : Int) := hJ.got 5 (by omega) (hdep ⟨5, .data⟩ (by simp) rfl)
      refine mk_index 33 (.tmp 9) (.tmp 11) rfl h1 h2 (ixStr bx q 7 w2 hq7) (hK _ _ ⟨bx, hJ.step rl_inj rl_lt (i := 6) (by omega) (by decide) rfl (Below.refl _ _)⟩)
    | 7, _ =>
      simp only [List.getElem?_toArray, List.getElem?_cons_zero, List.getElem?_cons_succ, Option.some.injEq] at ho
      subst ho
      have hd1 := hcl 6 _ rfl (hdep ⟨6, .data⟩ (by simp) rfl) ⟨3, .data⟩ (by simp) rfl
      have h1 : a.tmps.getD 12 undef = .pointer (some ⟨bx, q, none⟩) := hJ.got 6 (by omega) (hdep ⟨6, .data⟩ (by simp) rfl)
      refine mk_load (v := .string cw) 9 (.tmp 12) rfl h1 (load_one w2 bx (q) 9 _ _ (((hJ.box hd1).cell q).trans hcw) Tryz.underlying9 rfl) (hK _ _ ⟨bx, hJ.step rl_inj rl_lt (i := 7) (by omega) (by decide) rfl (Below.refl _ _)⟩)
    | 8, _ =>
      simp only [List.getElem?_toArray, List.getElem?_cons_zero, List.getElem?_cons_succ, Option.some.injEq] at ho
      subst ho
      have h1 : a.tmps.getD 8 undef = .string TX := hJ.got 2 (by omega) (hdep ⟨2, .data⟩ (by simp) rfl)
      have h2 : a.tmps.getD 13 undef = .string cw := hJ.got 7 (by omega) (hdep ⟨7, .data⟩ (by simp) rfl)
      refine mk_cat (.tmp 8) (.tmp 13) _ rfl (s := TX) (t := cw) h1 h2 (by have l1 : (⟨#[40]⟩ : ByteArray).size = 1 := rfl; have l2 : (⟨#[41]⟩ : ByteArray).size = 1 := rfl; (try simp only [cat_size]); omega) (hK _ _ ⟨bx, hJ.step rl_inj rl_lt (i := 8) (by omega) (by decide) rfl (Below.refl _ _)⟩)
    | 9, _ =>
      simp only [List.getElem?_toArray, List.getElem?_cons_zero, List.getElem?_cons_succ, Option.some.injEq] at ho
      subst ho
      have h1 : a.tmps.getD 1 undef = .pointer (some ⟨b, 0, none⟩) := (hJ.fr 1 (rl_fr 1 (by decide))).trans rfl
      refine mk_val (v := .pointer (some ⟨b, 10, none⟩)) (w' := w2) (by simp only [execOp, Act.eval, h1]; kernel_rfl) (hK _ _ ⟨bx, hJ.step rl_inj rl_lt (i := 9) (by omega) (by decide) rfl (Below.refl _ _)⟩)
    | 10, _ =>
      simp only [List.getElem?_toArray, List.getElem?_cons_zero, List.getElem?_cons_succ, Option.some.injEq] at ho
      subst ho
      have h1 : a.tmps.getD 15 undef = .pointer (some ⟨b, 10, none⟩) := hJ.got 9 (by omega) (hdep ⟨9, .data⟩ (by simp) rfl)
      refine mk_load (v := .agg rs.toArray) 75 (.tmp 15) rfl h1 (run_loadVar_at w2 b (10) 75 rs _ (fun i v hv => hJ.cell (HRC.out i v hv)) Tryz.underlying75 rfl (by rw [rsL]; exact infoRE6)) (hK _ _ ⟨bx, hJ.step rl_inj rl_lt (i := 10) (by omega) (by decide) rfl (Below.refl _ _)⟩)
    | 11, _ =>
      simp only [List.getElem?_toArray, List.getElem?_cons_zero, List.getElem?_cons_succ, Option.some.injEq] at ho
      subst ho
      have h1 : a.tmps.getD 16 undef = .agg rs.toArray := hJ.got 10 (by omega) (hdep ⟨10, .data⟩ (by simp) rfl)
      refine mk_call (f := 30) (args := #[.agg rs.toArray]) (by simp only [execOp, resolve, Act.eval, List.map_toArray, List.map_cons, List.map_nil, h1] <;> kernel_rfl) ((HCy.out w2 hJ.low).mono ?_)
      rintro e w' ⟨rfl, hb'⟩
      exact ⟨_, rfl, hK _ _ ⟨bx, hJ.step rl_inj rl_lt (i := 11) (by omega) (by decide) rfl hb'⟩⟩
    | 12, _ =>
      simp only [List.getElem?_toArray, List.getElem?_cons_zero, List.getElem?_cons_succ, Option.some.injEq] at ho
      subst ho
      have h1 : a.tmps.getD 14 undef = .string (TX ++ cw) := hJ.got 8 (by omega) (hdep ⟨8, .data⟩ (by simp) rfl)
      have h2 : a.tmps.getD 17 undef = .string TY := hJ.got 11 (by omega) (hdep ⟨11, .data⟩ (by simp) rfl)
      refine mk_cat (.tmp 14) (.tmp 17) _ rfl (s := (TX ++ cw)) (t := TY) h1 h2 (by have l1 : (⟨#[40]⟩ : ByteArray).size = 1 := rfl; have l2 : (⟨#[41]⟩ : ByteArray).size = 1 := rfl; (try simp only [cat_size]); omega) (hK _ _ ⟨bx, hJ.step rl_inj rl_lt (i := 12) (by omega) (by decide) rfl (Below.refl _ _)⟩)
    | 13, _ =>
      simp only [List.getElem?_toArray, List.getElem?_cons_zero, List.getElem?_cons_succ, Option.some.injEq] at ho
      subst ho
      have h1 : a.tmps.getD 18 undef = .string (TX ++ cw ++ TY) := hJ.got 12 (by omega) (hdep ⟨12, .data⟩ (by simp) rfl)
      refine mk_val (v := .string (TX ++ cw ++ TY)) (w' := w2) (by simp only [execOp, Act.eval, h1] <;> rfl) (hK _ _ ⟨bx, hJ.step rl_inj rl_lt (i := 13) (by omega) (by decide) rfl (Below.refl _ _)⟩)
    | n + 14, h => omega
  case hend =>
    intro dd a w2 hall hJ
    obtain ⟨bx, hJ⟩ := hJ
    have HL := Lib.hid (HB.out.trans (hJ.low.mono HB.out.size))
    have hg : ∀ k, k < 14 → a.tmps.getD (rlD k) undef = rlV b q TX cw TY ls rs bx k := fun k hk => hJ.got k hk (hall k hk)
    have hfr : ∀ t, (∀ k, k < 14 → t ≠ rlD k) → a.tmps.getD t undef = _ := fun t ht => hJ.fr t (fun k hk _ => ht k hk)
    have hdf := hJ.df
    have hsz : a.tmps.size = 29 := hJ.tm
    refine hK1 _ _ ?_
    clear hK1 hJ hall HLC HRC HCx HCy p0 p3 pl lsL rsL
    obtain ⟨⟨l⟩, df⟩ := a
    simp only at hdf hsz hfr hg  ⊢
    subst hdf
    change l.length = 29 at hsz
    obtain ⟨t0, l0, rfl, hz0⟩ := cons_of hsz
    obtain ⟨t1, l1, rfl, hz1⟩ := cons_of hz0
    obtain ⟨t2, l2, rfl, hz2⟩ := cons_of hz1
    obtain ⟨t3, l3, rfl, hz3⟩ := cons_of hz2
    obtain ⟨t4, l4, rfl, hz4⟩ := cons_of hz3
    obtain ⟨t5, l5, rfl, hz5⟩ := cons_of hz4
    obtain ⟨t6, l6, rfl, hz6⟩ := cons_of hz5
    obtain ⟨t7, l7, rfl, hz7⟩ := cons_of hz6
    obtain ⟨t8, l8, rfl, hz8⟩ := cons_of hz7
    obtain ⟨t9, l9, rfl, hz9⟩ := cons_of hz8
    obtain ⟨t10, l10, rfl, hz10⟩ := cons_of hz9
    obtain ⟨t11, l11, rfl, hz11⟩ := cons_of hz10
    obtain ⟨t12, l12, rfl, hz12⟩ := cons_of hz11
    obtain ⟨t13, l13, rfl, hz13⟩ := cons_of hz12
    obtain ⟨t14, l14, rfl, hz14⟩ := cons_of hz13
    obtain ⟨t15, l15, rfl, hz15⟩ := cons_of hz14
    obtain ⟨t16, l16, rfl, hz16⟩ := cons_of hz15
    obtain ⟨t17, l17, rfl, hz17⟩ := cons_of hz16
    obtain ⟨t18, l18, rfl, hz18⟩ := cons_of hz17
    obtain ⟨t19, l19, rfl, hz19⟩ := cons_of hz18
    obtain ⟨t20, l20, rfl, hz20⟩ := cons_of hz19
    obtain ⟨t21, l21, rfl, hz21⟩ := cons_of hz20
    obtain ⟨t22, l22, rfl, hz22⟩ := cons_of hz21
    obtain ⟨t23, l23, rfl, hz23⟩ := cons_of hz22
    obtain ⟨t24, l24, rfl, hz24⟩ := cons_of hz23
    obtain ⟨t25, l25, rfl, hz25⟩ := cons_of hz24
    obtain ⟨t26, l26, rfl, hz26⟩ := cons_of hz25
    obtain ⟨t27, l27, rfl, hz27⟩ := cons_of hz26
    obtain ⟨t28, l28, rfl, hz28⟩ := cons_of hz27
    obtain rfl : l28 = [] := List.eq_nil_of_length_eq_zero hz28
    clear hsz hz0 hz1 hz2 hz3 hz4 hz5 hz6 hz7 hz8 hz9 hz10 hz11 hz12 hz13 hz14 hz15 hz16 hz17 hz18 hz19 hz20 hz21 hz22 hz23 hz24 hz25 hz26 hz27 hz28
    have f0 := hfr 0 (by decide)
    change t0 = _ at f0
    subst f0
    have f1 := hfr 1 (by decide)
    change t1 = _ at f1
    subst f1
    have f2 : t2 = .string (TX ++ cw ++ TY) := hg 13 (by omega)
    subst f2
    have f3 := hfr 3 (by decide)
    change t3 = _ at f3
    subst f3
    have f4 := hfr 4 (by decide)
    change t4 = _ at f4
    subst f4
    have f5 := hfr 5 (by decide)
    change t5 = _ at f5
    subst f5
    have f6 : t6 = .pointer (some ⟨b, 4, none⟩) := hg 0 (by omega)
    subst f6
    have f7 : t7 = .agg ls.toArray := hg 1 (by omega)
    subst f7
    have f8 : t8 = .string TX := hg 2 (by omega)
    subst f8
    have f9 : t9 = .slice (some ⟨bx, 0, none⟩) 7 7 := hg 3 (by omega)
    subst f9
    have f10 : t10 = .pointer (some ⟨b, 3, none⟩) := hg 4 (by omega)
    subst f10
    have f11 : t11 = .int .i64 (q : Int) := hg 5 (by omega)
    subst f11
    have f12 : t12 = .pointer (some ⟨bx, q, none⟩) := hg 6 (by omega)
    subst f12
    have f13 : t13 = .string cw := hg 7 (by omega)
    subst f13
    have f14 : t14 = .string (TX ++ cw) := hg 8 (by omega)
    subst f14
    have f15 : t15 = .pointer (some ⟨b, 10, none⟩) := hg 9 (by omega)
    subst f15
    have f16 : t16 = .agg rs.toArray := hg 10 (by omega)
    subst f16
    have f17 : t17 = .string TY := hg 11 (by omega)
    subst f17
    have f18 : t18 = .string (TX ++ cw ++ TY) := hg 12 (by omega)
    subst f18
    have f19 := hfr 19 (by decide)
    change t19 = _ at f19
    subst f19
    have f20 := hfr 20 (by decide)
    change t20 = _ at f20
    subst f20
    have f21 := hfr 21 (by decide)
    change t21 = _ at f21
    subst f21
    have f22 := hfr 22 (by decide)
    change t22 = _ at f22
    subst f22
    have f23 := hfr 23 (by decide)
    change t23 = _ at f23
    subst f23
    have f24 := hfr 24 (by decide)
    change t24 = _ at f24
    subst f24
    have f25 := hfr 25 (by decide)
    change t25 = _ at f25
    subst f25
    have f26 := hfr 26 (by decide)
    change t26 = _ at f26
    subst f26
    have f27 := hfr 27 (by decide)
    change t27 = _ at f27
    subst f27
    have f28 := hfr 28 (by decide)
    change t28 = _ at f28
    subst f28
    clear hfr hg
    go_outline
    go_wp2
    go_ret
    exact ⟨ret_str HZ.out, HL.out⟩
theorem rxLt (x : TLt) (A : Option Addr) (c : Nat) (L : Option Addr) (d : Nat) (E : Option Addr) (f : Nat) (w : World) (hr : rightLt x = true) (hV : LtV w x A L E) :
    Calls Tryz.prog 27 #[ltV x A c L d E f] w fun r w' => r = .returned (.string (bts (txLt x))) ∧ Below w.heap.size w w' := by
  rcases rightLt_cases hr with ⟨hk | hk, ha⟩ | ⟨hk, hop, h1, h2⟩
  · have e : txLt x = txAm x.atom := by unfold txLt; rw [if_neg (by omega), if_neg (by omega)]
    rw [e]
    exact rxLt_pos x A c L d E f w hk ha hV
  · have e : txLt x = [110, 111, 116, 32] ++ txAm x.atom := by unfold txLt; rw [if_neg (by omega), if_pos hk]
    rw [e]
    exact rxLt_neg x A c L d E f w hk ha hV
  · have e : txLt x = txE x.left ++ (([32] ++ (cmpW x.op ++ [32])) ++ txE x.right) := by unfold txLt; rw [if_pos hk]; simp only [List.append_assoc]
    rw [e]
    exact rxLt_cmp x A c L d E f w hk hop h1 h2 hV
theorem infoRLt : (Tryz.prog.info? 77).map (·.size) = some 17 := by kernel_rfl
theorem aggB_cases {r : TRu} (h : aggB r = true) : (r.agg = 0 ∨ (1 ≤ r.agg ∧ r.agg ≤ 4)) ∧ (-9223372036854775808 ≤ r.col ∧ r.col ≤ 9223372036854775807 ∨ ¬ r.col < r.head.args.length ∨ r.col < r.head.args.length) := by
  unfold aggB at h
  refine ⟨?_, by omega⟩
  split at h
  · rename_i h0; exact .inl h0.1
  · simp only [Bool.and_eq_true, decide_eq_true_eq] at h
    exact .inr h.1
theorem aggB_col {r : TRu} (h : aggB r = true) (hl : r.head.args.length ≤ 6) : -9223372036854775808 ≤ r.col ∧ r.col ≤ 9223372036854775807 := by
  unfold aggB at h
  split at h
  · rename_i h0; omega
  · simp only [Bool.and_eq_true, decide_eq_true_eq] at h
    obtain ⟨_, h⟩ := h
    split at h
    · rename_i t ht
      have := (List.getElem?_eq_some_iff.1 ht).1
      simp only [Bool.and_eq_true, decide_eq_true_eq] at h
      omega
    · cases h
set_option maxRecDepth 100000 in
set_option maxHeartbeats 4000000 in
theorem rxRu (r : TRu) (A : Option Addr) (c : Nat) (B : Option Addr) (d : Nat) (w : World) (hr : rightRu r = true) (hV : RuV w r A B) :
    Calls Tryz.prog 24 #[ruV r A c B d] w fun e w' => e = .returned (.string (bts (txRu r))) ∧ Below w.heap.size w w' := by
  obtain ⟨hra, hag, hn, hbr⟩ := rightRu_parts hr
  have hb : Below w.heap.size w (w.alloc (.cells #[.string r.head.rel, .slice A r.head.args.length c, .int .i64 r.agg, .int .i64 r.col, .slice B r.body.length d, .int .i64 r.pos] 70)) := (Below.refl _ _).alloc (Nat.le_refl _) _
  have HB := Lib.hid hb
  have HO : Hid (Own (w.alloc (.cells #[.string r.head.rel, .slice A r.head.args.length c, .int .i64 r.agg, .int .i64 r.col, .slice B r.body.length d, .int .i64 r.pos] 70)) w.heap.size 70 [.string r.head.rel, .slice A r.head.args.length c, .int .i64 r.agg, .int .i64 r.col, .slice B r.body.length d, .int .i64 r.pos]) := heap_alloc_new _ _
  have HC := Lib.hid (rxAt r.head r.agg r.col A c (w.alloc (.cells #[.string r.head.rel, .slice A r.head.args.length c, .int .i64 r.agg, .int .i64 r.col, .slice B r.body.length d, .int .i64 r.pos] 70)) hra (aggB_cases hag).1 (aggB_col hag (rightAm_parts hra).2.1) (hV.am.below hb))
  rw [txAt_hd] at HC
  have HV := Lib.hid (hV.row.lt (.of hb))
  have HRt := Lib.hid hbr
  have hhl := txHd_len hra
  have hbl : ∀ k, (txBs 0 (r.body.take k)).length ≤ 720000032 := fun k => by
    have h1 := txBs_len (r.body.take k) 0 (fun x hx => hbr x (List.mem_of_mem_take hx))
    have h2 : (r.body.take k).length ≤ 8 := by rw [List.length_take]; omega
    have h3 := Nat.mul_le_mul_right 90000004 h2
    omega
  have HBl := Lib.hid hbl
  obtain ⟨ZT, hZT⟩ : ∃ ZT, ZT = bts (txRu r) := ⟨_, rfl⟩
  have HZ : Hid (bts (txHd r ++ txBs 0 r.body) ++ ⟨#[46]⟩ = ZT) := by
    show _ = _
    rw [hZT]
    unfold txRu
    apply ByteArray.ext
    apply Array.ext'
    simp [bts]
  rw [← hZT]
  unfold amV at HC
  unfold ruV
  obtain ⟨b, hbb⟩ : ∃ b, b = w.heap.size := ⟨_, rfl⟩
  rw [← hbb] at HO
  have p4 := HO.out.cell 4
  have pl := HO.out.lt
  simp only [List.getElem?_cons_zero, List.getElem?_cons_succ] at p4
  obtain ⟨w1, hw1⟩ : ∃ w1, w1 = (w.alloc (.cells #[.string r.head.rel, .slice A r.head.args.length c, .int .i64 r.agg, .int .i64 r.col, .slice B r.body.length d, .int .i64 r.pos] 70)) := ⟨_, rfl⟩
  rw [← hw1] at HB HC HV p4 pl
  clear hV hb hbr hr hra hag hZT hbl HO
  generalize txHd r = XH at *
  go_enter Tryz.func24, Tryz.ntmps24
  go_wp2_with fail
  rw [← hw1]
  repeat rw [show (Value.pointer (some ⟨w.heap.size, 0, none⟩)) = .pointer (some ⟨b, 0, none⟩) by rw [hbb]]
  clear hw1 hbb
  refine HC.out.mono ?_
  rintro e w2 ⟨rfl, b2⟩
  have HB2 := Lib.hid b2
  have p4 := (b2.cell (p := ⟨_, _, none⟩) pl).trans p4
  have pl2 := Nat.lt_of_lt_of_le pl b2.size
  clear b2 HC
  go_wp2_with fail
  clear pl
  go_loopw [3, 4] (fun s i wr => ∃ k : Nat, k ≤ r.body.length ∧ i = .int .i64 k ∧ s = .string (bts (XH ++ txBs 0 (r.body.take k))) ∧ Hid (Below w2.heap.size w2 wr)) (fun _ i _ => r.body.length - (intOf i).toNat)
  case atStart => exact ⟨0, Nat.zero_le _, rfl, by simp [txBs], Lib.hid (Below.refl _ _)⟩
  case round =>
    obtain ⟨k9, hk, rfl, rfl, HBr⟩ := hrel
    have hqb : b < wr.heap.size := Nat.lt_of_lt_of_le pl2 HBr.out.size
    have p4 := (HBr.out.cell (p := ⟨b, _, none⟩) pl2).trans p4
    have hsz : (bts (XH ++ txBs 0 (r.body.take k9))).size ≤ 730000000 := by
      have := HBl.out k9
      rw [bts_size, List.length_append]
      omega
    by_cases hlt : k9 < r.body.length
    · obtain ⟨ab, ao, hA, hbw, hc⟩ := HV.out.at_ hlt
      rw [hA] at p4
      have hlow := HB2.out.trans (HBr.out.mono HB2.out.size)
      have hc := hc.pers (.of hlow)
      obtain ⟨xA, xc, xL, xd, xR, xf, hF, hVx⟩ := hc.open_
      have hrx := HRt.out _ (List.getElem_mem hlt)
      have hsn := txBs_snoc hlt
      have hTl : (bts (txLt r.body[k9])).size ≤ 90000000 := by rw [bts_size]; exact rightLt_len hrx
      obtain ⟨cs, hcs⟩ : ∃ cs, cs = ltL r.body[k9] xA xc xL xd xR xf := ⟨_, rfl⟩
      have hcl : cs.length = 17 := by rw [hcs]; rfl
      have HCS : Hid (∀ (i : Nat) v, cs[i]? = some v → wr.cell? ⟨ab, ao + k9 * 17 + i, none⟩ = some v) := by rw [hcs]; exact ltF_list hF
      have HI1 : Hid ((Tryz.prog.info? 77).map (·.size) = some cs.length) := by show _ = _; rw [hcl]; exact infoRLt
      have HCl : Hid (Calls Tryz.prog 27 #[.agg cs.toArray] wr fun e w' => e = .returned (.string (bts (txLt r.body[k9]))) ∧ Below wr.heap.size wr w') := by
        rw [hcs]
        exact rxLt _ xA xc xL xd xR xf wr hrx hVx
      obtain ⟨S0, hS0⟩ : ∃ S0, S0 = bts (XH ++ txBs 0 (r.body.take k9)) := ⟨_, rfl⟩
      have hnx : bts (XH ++ txBs 0 (r.body.take (k9 + 1))) = S0 ++ bts (sepX k9) ++ bts (txLt r.body[k9]) := by
        rw [hsn, hS0, bts_app, bts_app]
        simp only [List.append_assoc]
      have HNx := Lib.hid hnx
      rw [← hS0] at hsz ⊢
      clear hS0 hnx hsn hF hVx hrx hcs hc hlow hcl hA
      generalize bts (txLt r.body[k9]) = TT at *
      by_cases hk0 : k9 = 0
      · have hk1 : ((k9 : Int) == 0) = true := by simp [hk0]
        have hk2 : (k9 : Int) = 0 := by omega
        have HNy : Hid (bts (XH ++ txBs 0 (r.body.take (k9 + 1))) = S0 ++ ⟨#[32, 58, 45, 32]⟩ ++ TT) := by
          show _ = _
          rw [HNx.out]
          unfold sepX
          rw [if_pos hk0]
        clear HNx hk0
        clear hk2
        go_wp2_with (first
          | (refine wpList_load_at (o := ⟨some 30, _, _, _, _, _⟩) rfl 77 _ rfl ab (ao + k9 * 17) rfl cs HCS.out _ Tryz.underlying77 rfl HI1.out ?_)
          | fail)
        refine HCl.out.mono ?_
        rintro e w3 ⟨rfl, b3⟩
        have HB3 := Lib.hid (HBr.out.trans (b3.mono HBr.out.size))
        clear b3 HCl HCS
        go_wp2
        go_roundw
        case rel => exact ⟨k9 + 1, by omega, by go_num, by rw [HNy.out], HB3⟩
        case measure => simp [intOf]; omega
      · have hk1 : ((k9 : Int) == 0) = false := by simp [hk0]
        have HNy : Hid (bts (XH ++ txBs 0 (r.body.take (k9 + 1))) = S0 ++ ⟨#[44, 32]⟩ ++ TT) := by
          show _ = _
          rw [HNx.out]
          unfold sepX
          rw [if_neg hk0]
        clear HNx hk0
        go_wp2_with (first
          | (refine wpList_load_at (o := ⟨some 30, _, _, _, _, _⟩) rfl 77 _ rfl ab (ao + k9 * 17) rfl cs HCS.out _ Tryz.underlying77 rfl HI1.out ?_)
          | fail)
        refine HCl.out.mono ?_
        rintro e w3 ⟨rfl, b3⟩
        have HB3 := Lib.hid (HBr.out.trans (b3.mono HBr.out.size))
        clear b3 HCl HCS
        go_wp2
        go_roundw
        case rel => exact ⟨k9 + 1, by omega, by go_num, by rw [HNy.out], HB3⟩
        case measure => simp [intOf]; omega
    · have hkl : k9 = r.body.length := by omega
      subst hkl
      rw [List.take_length] at hsz ⊢
      have HZz := HZ
      generalize bts (XH ++ txBs 0 r.body) = S9 at *
      go_wp2
      go_ret
      exact ⟨ret_str HZz.out, HB.out.trans ((HB2.out.trans (HBr.out.mono HB2.out.size)).mono HB.out.size)⟩
end Go.Proofs.YtikohamfnnlhcaaGreatDoor
