/- A writer in memory; what a call of it leaves as it was; put. Conditions: texts of at most 2^46 bytes. A writer's put of one, two or three texts; which operand has parentheses. Conditions: texts of at most 2^46 bytes. -/
import Derived.Test.YtikohamfnnlhcaaGreatDoorScE
import Derived.Test.YtikohamfnnlhcaaGreatDoorPcTermM
set_option linter.unusedVariables false
set_option linter.unusedSimpArgs false
namespace Go.Proofs.YtikohamfnnlhcaaGreatDoor
open Go.RowKit Go.Deep Go.Shelf

/-- block k is no row of bytes. -/
def NotU (w : World) (k : Nat) : Prop := ∀ cs f, w.heap[k]? ≠ some (.cells cs 5 f)
/-- what a writer (block R, made behind n) leaves as it was: what lies ahead of n, and all but itself and rows of bytes. -/
structure Kw (n R : Nat) (w w' : World) : Prop where
  os : w'.os = w.os
  tape : w'.tape = w.tape
  output : w'.output = w.output
  size : w.heap.size ≤ w'.heap.size
  block : ∀ k, k < w.heap.size → (k < n ∨ (k ≠ R ∧ NotU w k)) → w'.heap[k]? = w.heap[k]?
section
variable {n R : Nat} {a b c w w' : World}
theorem Kw.refl (w : World) : Kw n R w w := ⟨rfl, rfl, rfl, Nat.le_refl _, fun _ _ _ => rfl⟩
theorem Kw.of (h : Below w.heap.size w w') : Kw n R w w' := ⟨h.os, h.tape, h.output, h.size, fun k hk _ => h.block k hk⟩
theorem Kw.trans (h : Kw n R a b) (h' : Kw n R b c) : Kw n R a c :=
  ⟨h'.os.trans h.os, h'.tape.trans h.tape, h'.output.trans h.output, Nat.le_trans h.size h'.size, fun k hk hc => by
    have h1 := h.block k hk hc
    refine (h'.block k (Nat.lt_of_lt_of_le hk h.size) (hc.imp id fun hc => ⟨hc.1, fun cs f => ?_⟩)).trans h1
    rw [h1]
    exact hc.2 cs f⟩
theorem Kw.own (h : Kw n R w w') {g : Nat} {e : TypeId} {xs : List Value} (ho : Own w g e xs) (hg : g ≠ R) (he : e ≠ 5) : Own w' g e xs :=
  (h.block g ho.lt (.inr ⟨hg, fun cs f hh => by rw [ho] at hh; injection hh with hh; injection hh with _ hh; exact he hh⟩)).trans ho
theorem Kw.below (h : Kw n R w w') (hn : n ≤ w.heap.size) : Below n w w' := ⟨h.os, h.tape, h.output, h.size, fun k hk => h.block k (by omega) (.inl hk)⟩
theorem Kw.setR (h : Kw n R a w) (hR : n ≤ R) (i : Nat) (u : Value) : Kw n R a (w.setCell ⟨R, i, none⟩ u) :=
  h.trans ⟨rfl, rfl, rfl, by simp [World.setCell], fun k hk hc => Below.heap_setCell _ _ _ _ (by
    show k ≠ R
    rcases hc with hc | hc
    · omega
    · exact hc.1)⟩
theorem Kw.drew (h : Kw n R a w) : Kw n R a w.drew := h.trans (Kw.of (Below.refl _ _).drew)
theorem Kw.drewN (h : Kw n R a w) (k : Nat) : Kw n R a (w.drewN k) := h.trans (Kw.of (below_drewN (Below.refl _ _) k))
theorem Kw.alloc (h : Kw n R a w) (o : Obj) : Kw n R a (w.alloc o) := h.trans (Kw.of ((Below.refl _ _).alloc (Nat.le_refl _) _))
end
/-- a writer that holds a text. -/
structure Wr (w0 : World) (R : Nat) (T : List UInt8) (m : Int) (W : World) : Prop where
  own : ∃ A c, Own W R 142 [.slice A T.length c, .int .i64 m] ∧ W.ownsRow w0.heap.size 5 1 (.slice A T.length c) T.length (Lib.strCells (bts T))
  lo : w0.heap.size ≤ R
  base : Below w0.heap.size w0 W
section
variable {w0 w w' : World} {R : Nat} {T : List UInt8} {m : Int}
theorem owns_below {w w' : World} {base n : Nat} {e : TypeId} {v : Value} {xs : List Value} (h : w.ownsRow base e 1 v n xs) (hb : Below w.heap.size w w') : w'.ownsRow base e 1 v n xs := by
  refine ⟨h.1, h.2.imp id ?_⟩
  rintro ⟨g, cap, cur, h1, hg, hc, hh⟩
  exact ⟨g, cap, cur, h1, hg, (hb.block g (Array.getElem?_eq_some_iff.1 hc).1).trans hc, hh⟩
theorem Wr.below (h : Wr w0 R T m w) (hb : Below w.heap.size w w') : Wr w0 R T m w' := by
  obtain ⟨A, c, h1, h2⟩ := h.own
  exact ⟨⟨A, c, h1.below hb, owns_below h2 hb⟩, h.lo, h.base.trans (hb.mono h.base.size)⟩
theorem Wr.lt (h : Wr w0 R T m w) : R < w.heap.size := by
  obtain ⟨A, c, h1, _⟩ := h.own
  exact h1.lt
end
theorem infoU8 : (Tryz.prog.info? 5).map (fun i => (i.zero, i.size, i.bytes)) = some (some (.int .u8 0), 1, 1) := by kernel_rfl
theorem strC_app (a b : List UInt8) : Lib.strCells (bts (a ++ b)) = Lib.strCells (bts a) ++ Lib.strCells (bts b) := by simp [Lib.strCells, bts_list]
theorem row_ne {w : World} {base n R : Nat} {v : Value} {xs zs : List Value} {e : TypeId} (h : w.ownsRow base 5 1 v n xs) (ho : Own w R e zs) (he : e ≠ 5) : some R ≠ v.ownBlock := by
  rcases h.2 with ⟨h1, _⟩ | ⟨g, cap, cur, h1, hg, hc, _⟩
  · rw [h1]; intro h; cases h
  · rw [h1]
    intro h
    injection h with h
    subst h
    rw [ho] at hc
    injection hc with hc
    injection hc with _ hc
    exact he hc
theorem Kw.grown {n R : Nat} {w w' : World} {v : Value} {base k : Nat} {xs : List Value} (h : w.grownBy w' v.ownBlock) (hv : w.ownsRow base 5 1 v k xs) (hb : n ≤ base) : Kw n R w w' :=
  ⟨h.os, h.tape, h.output, h.size, fun q hq hc => h.block q hq (fun he => by
    rcases hv.2 with ⟨h1, _⟩ | ⟨g, cap, cur, h1, hg, hcc, _⟩
    · rw [h1] at he; cases he
    · rw [h1] at he
      injection he with he
      subst he
      rcases hc with hc | hc
      · omega
      · exact hc.2 _ _ hcc)⟩
theorem owns_set {w : World} {base n R i : Nat} {v u : Value} {xs : List Value} (h : w.ownsRow base 5 1 v n xs) (hR : some R ≠ v.ownBlock) : (w.setCell ⟨R, i, none⟩ u).ownsRow base 5 1 v n xs := by
  refine ⟨h.1, h.2.imp id ?_⟩
  rintro ⟨g, cap, cur, h1, hg, hc, hh⟩
  refine ⟨g, cap, cur, h1, hg, (Below.heap_setCell _ _ _ _ ?_).trans hc, hh⟩
  rw [h1] at hR
  intro e
  exact hR (by simp [Value.ownBlock, e])
/-- what a writer's call gives: whether there is still room; if there is, the text is behind what was there. -/
def GotW (w0 : World) (R : Nat) (T X : List UInt8) (m : Int) (W : World) (e : Ending) (W' : World) : Prop :=
  ∃ T', e = .returned (.bool (decide (((T ++ X).length : Int) ≤ m))) ∧ (((T ++ X).length : Int) ≤ m → T' = T ++ X) ∧ (¬ ((T ++ X).length : Int) ≤ m → m < (T'.length : Int)) ∧ T'.length ≤ (T ++ X).length ∧ Wr w0 R T' m W' ∧ Kw w0.heap.size R W W'
theorem flat_take {xs : List (List UInt8)} {k : Nat} (h : k < xs.length) : (xs.take (k + 1)).flatten = (xs.take k).flatten ++ xs[k] := by
  rw [List.take_succ_eq_append_getElem h, List.flatten_append]
  simp
theorem flat_take_le {xs : List (List UInt8)} {k : Nat} : ((xs.take k).flatten).length ≤ (xs.flatten).length := by
  conv => rhs; rw [← List.take_append_drop k xs]
  rw [List.flatten_append, List.length_append]
  omega
set_option maxRecDepth 100000 in
set_option maxHeartbeats 1000000 in
theorem put_any (w0 : World) (R : Nat) (T : List UInt8) (m : Int) (g c : Nat) (xs : List (List UInt8)) (W : World) (h : Wr w0 R T m W) (ho : Own W g 9 (xs.map fun x => .string (bts x))) (hg : g ≠ R) (hx : xs.length ≤ 100) (hl : (T ++ xs.flatten).length ≤ 70368744177664) :
    Calls Tryz.prog 74 #[.pointer (some ⟨R, 0, none⟩), .slice (some ⟨g, 0, none⟩) xs.length c] W (GotW w0 R T xs.flatten m W) := by
  have H := Lib.hid h
  have HO := Lib.hid ho
  have HL := Lib.hid hl
  clear h ho hl
  go_enter Tryz.func74, Tryz.ntmps74
  go_wp2_with fail
  go_loopw [9] (fun i wr => ∃ k : Nat, k ≤ xs.length ∧ i = .int .i64 k ∧ Hid (Wr w0 R (T ++ (xs.take k).flatten) m wr) ∧ Hid (Kw w0.heap.size R W wr)) (fun i _ => xs.length - (intOf i).toNat)
  case atStart => exact ⟨0, Nat.zero_le _, rfl, Lib.hid (by simpa using H.out), Lib.hid (Kw.refl _)⟩
  case round =>
    obtain ⟨k, hk, rfl, HW, HK⟩ := hrel
    by_cases hlt : k < xs.length
    · obtain ⟨A, cc, hW, hrow⟩ := HW.out.own
      have hlen : (T ++ (xs.take (k + 1)).flatten).length ≤ 70368744177664 := by
        have h1 := HL.out
        have h2 := flat_take_le (xs := xs) (k := k + 1)
        simp only [List.length_append] at h1 ⊢
        omega
      have hsn : T ++ (xs.take (k + 1)).flatten = (T ++ (xs.take k).flatten) ++ xs[k] := by rw [flat_take hlt, List.append_assoc]
      rw [hsn] at hlen
      have HSn := Lib.hid hsn
      have q := (HK.out.own HO.out hg (by decide)).cell k
      rw [List.getElem?_map, List.getElem?_eq_getElem hlt, Option.map_some] at q
      have hgl := (HK.out.own HO.out hg (by decide)).lt
      have hlo := HW.out.lo
      have hbase := HW.out.base.size
      have HBs := Lib.hid HW.out.base
      clear hsn HW
      generalize T ++ (xs.take k).flatten = T1 at *
      generalize xs[k] = x at *
      rw [List.length_append] at hlen
      have e0 := hW.cell 0
      have e1 := hW.frozen 0
      have el := hW.lt
      simp only [List.getElem?_cons_zero] at e0
      have HWo := Lib.hid hW
      have HRw := Lib.hid hrow
      obtain ⟨i0, hi0, hz0, hzs, hzb⟩ := info_parts infoU8
      have hxs : (bts x).size = x.length := bts_size x
      have hb1 : T1.length + (bts x).size ≤ maxLen := by rw [hxs]; unfold maxLen; omega
      have hb2 : T1.length + (bts x).size ≤ 140737488355328 := by rw [hxs]; omega
      clear hW hrow hlen hxs
      go_wp2_with (first
        | (at_builtin; refine Lib.wpList_append_own_string _ rfl _ _ 140 9 rfl w0.heap.size 5 i0 Tryz.underlying140 Tryz.underlying9 hi0 hz0 hzs hzb (.slice A T1.length cc) T1.length (Lib.strCells (bts T1)) rfl HRw.out (bts x) rfl hb1 hb2 hbase ?_; intro v' w2 ho2 hg2 _; obtain ⟨A2, c2, rfl, _, _⟩ := own_valueM ho2; have HR2 := Lib.hid ho2; have HW2 := Lib.hid ((Kw.grown (n := w0.heap.size) (R := R) hg2 HRw.out (Nat.le_refl _))); have HO2 : Hid (Own w2 R 142 [.slice A T1.length cc, .int .i64 m]) := (hg2.block R HWo.out.lt (row_ne HRw.out HWo.out (by decide))).trans HWo.out; have d0 := HO2.out.cell 0; have d1 := HO2.out.frozen 0; have dl := HO2.out.lt; simp only [List.getElem?_cons_zero] at d0; clear ho2 hg2 e0 e1)
        | fail)
      go_roundw
      case rel =>
        have hst := HO2.out.set 0 (.slice A2 (T1.length + (bts x).size) c2)
        simp only [List.set_cons_zero] at hst
        refine ⟨k + 1, by omega, by go_num, ⟨⟨A2, c2, ?_, ?_⟩, hlo, ?_⟩, ((HK.out.trans HW2.out).setR hlo 0 _)⟩
        · rw [HSn.out, List.length_append, ← bts_size x]; exact hst
        · rw [HSn.out, strC_app, List.length_append, ← bts_size x]
          exact owns_set HR2.out (row_ne HR2.out HO2.out (by decide))
        · exact HBs.out.trans (((HW2.out).setR hlo 0 _).below hbase)
      case measure => simp [intOf]; omega
    · have hkl : k = xs.length := by omega
      subst hkl
      rw [List.take_length] at HW
      obtain ⟨A, cc, hW, hrow⟩ := HW.out.own
      have e0 := hW.cell 0
      have e1 := hW.cell 1
      have el := hW.lt
      simp only [List.getElem?_cons_zero, List.getElem?_cons_succ] at e0 e1
      have HWW := HW
      clear hW hrow HW H HO HL
      obtain ⟨T1, hT1⟩ : ∃ T1, T1 = T ++ xs.flatten := ⟨_, rfl⟩
      have HT := Lib.hid hT1
      rw [← hT1] at e0 HWW
      clear hT1
      go_wp2_with fail
      go_quiet (fail)
      go_wp2
      go_ret
      exact ⟨T1, by rw [← HT.out]; rfl, fun _ => HT.out, fun h => by rw [← HT.out] at h; omega, Nat.le_of_eq (by rw [HT.out]), HWW.out.below (below_drewN (Below.refl _ _) _), HK.out.drewN _⟩
end Go.Proofs.YtikohamfnnlhcaaGreatDoor

set_option linter.unusedVariables false
set_option linter.unusedSimpArgs false
namespace Go.Proofs.YtikohamfnnlhcaaGreatDoor
open Go.RowKit Go.Deep Go.Shelf

section
variable {w0 : World} {R g : Nat} {T x y z : List UInt8} {m : Int} {W : World}
theorem put1 (h : Wr w0 R T m W) (ho : Own W g 9 [.string (bts x)]) (hg : g ≠ R) (hl : (T ++ x).length ≤ 70368744177664) :
    Calls Tryz.prog 74 #[.pointer (some ⟨R, 0, none⟩), .slice (some ⟨g, 0, none⟩) 1 1] W (GotW w0 R T x m W) := by
  have h1 := put_any w0 R T m g 1 [x] W h ho hg (by simp) (by simpa using hl)
  rwa [show [x].flatten = x by simp] at h1
theorem put2 (h : Wr w0 R T m W) (ho : Own W g 9 [.string (bts x), .string (bts y)]) (hg : g ≠ R) (hl : (T ++ (x ++ y)).length ≤ 70368744177664) :
    Calls Tryz.prog 74 #[.pointer (some ⟨R, 0, none⟩), .slice (some ⟨g, 0, none⟩) 2 2] W (GotW w0 R T (x ++ y) m W) := by
  have h1 := put_any w0 R T m g 2 [x, y] W h ho hg (by simp) (by simpa using hl)
  rwa [show [x, y].flatten = x ++ y by simp] at h1
theorem put3 (h : Wr w0 R T m W) (ho : Own W g 9 [.string (bts x), .string (bts y), .string (bts z)]) (hg : g ≠ R) (hl : (T ++ (x ++ (y ++ z))).length ≤ 70368744177664) :
    Calls Tryz.prog 74 #[.pointer (some ⟨R, 0, none⟩), .slice (some ⟨g, 0, none⟩) 3 3] W (GotW w0 R T (x ++ (y ++ z)) m W) := by
  have h1 := put_any w0 R T m g 3 [x, y, z] W h ho hg (by simp) (by simpa using hl)
  rwa [show [x, y, z].flatten = x ++ (y ++ z) by simp] at h1
end
theorem own_second (w : World) (o : Obj) (cs : Array Value) (t : TypeId) : ((w.alloc o).alloc (.cells cs t)).heap[w.heap.size + 1]? = some (.cells cs t (0, 0)) := by
  have h := heap_alloc_new (w.alloc o) (.cells cs t)
  rwa [World.size_alloc] at h
/-- what two calls give, one behind the other: the first one's text has room. -/
theorem GotW.then {w0 : World} {R : Nat} {T X Y T' : List UInt8} {m : Int} {W W1 : World} (hT : T' = T ++ X) (hk : Kw w0.heap.size R W W1) {e : Ending} {W2 : World} (h : GotW w0 R T' Y m W1 e W2) : GotW w0 R T (X ++ Y) m W e W2 := by
  subst hT
  obtain ⟨T2, h1, h2, h3, h4, h5, h6⟩ := h
  rw [List.append_assoc] at h1 h2 h3 h4
  exact ⟨T2, h1, h2, h3, h4, h5, hk.trans h6⟩
/-- the first one's text has no room: nor has the whole. -/
theorem GotW.full {w0 : World} {R : Nat} {T X Y T' : List UInt8} {m : Int} {W W1 : World} (hd : decide (((T ++ X).length : Int) ≤ m) = false) (h3 : ¬ ((T ++ X).length : Int) ≤ m → m < (T'.length : Int)) (h4 : T'.length ≤ (T ++ X).length) (hw : Wr w0 R T' m W1) (hk : Kw w0.heap.size R W W1) :
    GotW w0 R T (X ++ Y) m W (.returned (.bool false)) W1 := by
  have hd : ¬ ((T ++ X).length : Int) ≤ m := of_decide_eq_false hd
  have h5 : ¬ ((T ++ (X ++ Y)).length : Int) ≤ m := by
    simp only [List.length_append] at hd ⊢
    omega
  refine ⟨T', by rw [decide_eq_false h5], fun h => absurd h h5, fun _ => h3 hd, ?_, hw, hk⟩
  simp only [List.length_append] at h4 ⊢
  omega
theorem GotW.b {w0 : World} {R : Nat} {T X : List UInt8} {m : Int} {W : World} {e : Ending} {W' : World} (h : GotW w0 R T X m W e W') : ∃ v, e = .returned (.bool v) ∧ GotW w0 R T X m W (.returned (.bool v)) W' := by
  have h0 := h
  obtain ⟨T', rfl, _⟩ := h
  exact ⟨_, rfl, h0⟩
/-- how tightly an operation binds. -/
def bindX (op : Int) : Int := if op = 0 then 3 else if op = 3 then 2 else 1
theorem op_cases {op : Int} (h : op = 0 ∨ (1 ≤ op ∧ op ≤ 3)) : ∃ j : Nat, op = (j : Int) ∧ j < 4 ∧ ∃ s, opsL[j]? = some (s, bindX op) ∧ (j ≠ 0 → s = sgnX op) := by
  rcases (show op = 0 ∨ op = 1 ∨ op = 2 ∨ op = 3 by omega) with rfl | rfl | rfl | rfl
  · exact ⟨0, rfl, by omega, [], rfl, fun h => absurd rfl h⟩
  · exact ⟨1, rfl, by omega, _, rfl, fun _ => rfl⟩
  · exact ⟨2, rfl, by omega, _, rfl, fun _ => rfl⟩
  · exact ⟨3, rfl, by omega, _, rfl, fun _ => rfl⟩
theorem parL_eq {op x : Int} (h : 1 ≤ op ∧ op ≤ 3) (hx : x = 0 ∨ (1 ≤ x ∧ x ≤ 3)) : pL op x = decide (bindX x < bindX op) := by
  rcases (show op = 1 ∨ op = 2 ∨ op = 3 by omega) with rfl | rfl | rfl <;> rcases (show x = 0 ∨ x = 1 ∨ x = 2 ∨ x = 3 by omega) with rfl | rfl | rfl | rfl <;> decide
theorem parR_eq {op x : Int} (h : 1 ≤ op ∧ op ≤ 3) (hx : x = 0 ∨ (1 ≤ x ∧ x ≤ 3)) : pR op x = decide (bindX x < bindX op + 1) := by
  rcases (show op = 1 ∨ op = 2 ∨ op = 3 by omega) with rfl | rfl | rfl <;> rcases (show x = 0 ∨ x = 1 ∨ x = 2 ∨ x = 3 by omega) with rfl | rfl | rfl | rfl <;> decide
theorem rightE_op {d : Nat} {e : TEx} (h : rightE d e = true) : e.op = 0 ∨ (1 ≤ e.op ∧ e.op ≤ 3) := by
  by_cases h0 : e.op = 0
  · exact .inl h0
  · cases d with
    | zero => rw [rightE_deep h0] at h; cases h
    | succ d =>
      rw [rightE_node d h0] at h
      simp only [Bool.and_eq_true, decide_eq_true_eq] at h
      exact .inr h.1
theorem rightE_kids {d : Nat} {e : TEx} (h : rightE (d + 1) e = true) (h0 : ¬ e.op = 0) : (1 ≤ e.op ∧ e.op ≤ 3) ∧ ∃ a b, e.kids = [a, b] ∧ rightE d a = true ∧ rightE d b = true := by
  rw [rightE_node d h0] at h
  simp only [Bool.and_eq_true, decide_eq_true_eq] at h
  obtain ⟨h1, _, h⟩ := h
  split at h
  · rename_i a b hk
    simp only [Bool.and_eq_true] at h
    exact ⟨h1, a, b, hk, h.1, h.2⟩
  · cases h
/-- what is told of exp and operand, for expressions of a depth. -/
def ExpOk (d : Nat) : Prop := ∀ (w0 : World) (R : Nat) (T : List UInt8) (m : Int) (e : TEx) (A : Option Addr) (c : Nat) (W : World), rightE d e = true → ExV w0 e A → Sht w0 → Wr w0 R T m W → (T ++ txE e).length ≤ 70368744177664 →
  Calls Tryz.prog 54 #[.pointer (some ⟨R, 0, none⟩), exV e A c] W (GotW w0 R T (txE e) m W)
def OpdOk (d : Nat) : Prop := ∀ (w0 : World) (R : Nat) (T : List UInt8) (m k : Int) (e : TEx) (A : Option Addr) (c : Nat) (W : World), rightE d e = true → ExV w0 e A → Sht w0 → Wr w0 R T m W → (T ++ par (decide (bindX e.op < k)) (txE e)).length ≤ 70368744177664 →
  Calls Tryz.prog 86 #[.pointer (some ⟨R, 0, none⟩), exV e A c, .int .i64 k] W (GotW w0 R T (par (decide (bindX e.op < k)) (txE e)) m W)
theorem Wr.cell {w0 : World} {R : Nat} {T : List UInt8} {m : Int} {W : World} (h : Wr w0 R T m W) {p : Addr} {v : Value} (hp : w0.cell? p = some v) : W.cell? p = some v := (h.base.cell (World.block_lt_of_cell? w0 p hp)).trans hp
theorem Wr.pers {w0 : World} {R : Nat} {T : List UInt8} {m : Int} {W : World} (h : Wr w0 R T m W) : Pers w0 W := .of h.base
set_option maxRecDepth 100000 in
set_option maxHeartbeats 1000000 in
theorem operand_of (d : Nat) (hexp : ExpOk d) : OpdOk d := by
  intro w0 R T m k e A c W hr hV hS h hl
  obtain ⟨j, hj, hj4, s, hjs, _⟩ := op_cases (rightE_op hr)
  obtain ⟨_, o2⟩ := hS.ops.2 j _ hjs
  have hgl := hS.ops.1
  have o2 := h.cell o2
  have hb : Below W.heap.size W (W.alloc (.cells #[.int .i64 e.op, .string e.t.v, .int .i64 e.t.k, .int .i64 e.t.n, .string e.t.s, .slice A e.kids.length c] 61)) := (Below.refl _ _).alloc (Nat.le_refl _) _
  have HO : Hid (Own (W.alloc (.cells #[.int .i64 e.op, .string e.t.v, .int .i64 e.t.k, .int .i64 e.t.n, .string e.t.s, .slice A e.kids.length c] 61)) W.heap.size 61 [.int .i64 e.op, .string e.t.v, .int .i64 e.t.k, .int .i64 e.t.n, .string e.t.s, .slice A e.kids.length c]) := heap_alloc_new _ _
  have HK : Hid (Kw w0.heap.size R W (W.alloc (.cells #[.int .i64 e.op, .string e.t.v, .int .i64 e.t.k, .int .i64 e.t.n, .string e.t.s, .slice A e.kids.length c] 61))) := (Kw.refl _).alloc _
  have HW := Lib.hid (h.below hb)
  have HRl : R < W.heap.size := h.lt
  have hbne : W.heap.size ≠ R := by have := h.lt; omega
  have o2 := (hb.cell (p := ⟨_, _, none⟩) (World.block_lt_of_cell? W _ o2)).trans o2
  have HE : Hid (∀ (T : List UInt8) (W : World), Wr w0 R T m W → (T ++ txE e).length ≤ 70368744177664 → Calls Tryz.prog 54 #[.pointer (some ⟨R, 0, none⟩), .agg #[.int .i64 e.op, .string e.t.v, .int .i64 e.t.k, .int .i64 e.t.n, .string e.t.s, .slice A e.kids.length c]] W (GotW w0 R T (txE e) m W)) := fun T W h1 h2 => hexp w0 R T m e A c W hr hV hS h1 h2
  have HL := Lib.hid hl
  clear hr hV hS h hb hl hexp
  unfold exV
  by_cases hlt : bindX e.op < k
  · have hd : decide (bindX e.op < k) = true := decide_eq_true hlt
    rw [hd] at HL ⊢
    have HX : Hid (par true (txE e) = [40] ++ (txE e ++ [41])) := rfl
    rw [HX.out] at HL ⊢
    have hge : ¬ k ≤ bindX e.op := by omega
    generalize txE e = X at *
    generalize bindX e.op = bx at *
    rw [hj] at *
    have hl0 := HL.out
    simp only [List.length_append, List.length_cons, List.length_nil] at hl0
    clear hd hlt
    go_enter Tryz.func86, Tryz.ntmps86
    have HB2 := Lib.hid ((HW.out.below ((Below.refl _ _).alloc (o := .cells #[.string ⟨#[40]⟩] 9) (Nat.le_refl _))))
    have HP := Lib.hid (put1 (g := W.heap.size + 1) (x := [40]) HB2.out (own_second W _ _ _) (by have := HW.out.lt; simp at this; have := HRl; omega) (by simp only [List.length_append, List.length_cons, List.length_nil]; omega))
    have HO2 := Lib.hid (HO.out.alloc (.cells #[.string ⟨#[40]⟩] 9))
    have HK2 := Lib.hid (HK.out.alloc (.cells #[.string ⟨#[40]⟩] 9))
    go_wp2_with fail
    refine HP.out.mono ?_
    rintro r W3 ⟨T3, rfl, p1, p2, p3, w3, k3⟩
    have HK3 := Lib.hid (HK2.out.trans k3)
    have HO3 := Lib.hid (k3.own HO2.out hbne (by decide))
    clear k3 HP HB2 HO2 HK2 HO HK HW o2
    cases hq : decide (((T ++ [40]).length : Int) ≤ m) with
    | false =>
      have HF := Lib.hid (GotW.full (Y := X ++ [41]) hq p2 p3 w3 HK3.out)
      clear hq p1 p2 p3 w3 HE HL
      go_wp2
      go_ret
      exact HF.out
    | true =>
      have hT : T3 = T ++ [40] := p1 (of_decide_eq_true hq)
      subst hT
      have HC := Lib.hid (HE.out (T ++ [40]) W3 w3 (by simp only [List.length_append, List.length_cons, List.length_nil]; omega))
      have e0 := HO3.out.cell 0
      have e1 := HO3.out.cell 1
      have e2 := HO3.out.cell 2
      have e3 := HO3.out.cell 3
      have e4 := HO3.out.cell 4
      have e5 := HO3.out.cell 5
      have el := HO3.out.lt
      simp only [List.getElem?_cons_zero, List.getElem?_cons_succ] at e0 e1 e2 e3 e4 e5
      clear hq p1 p2 p3 w3 HE
      go_wp2_with fail
      refine HC.out.mono ?_
      rintro r W4 ⟨T4, rfl, p1, p2, p3, w4, k4⟩
      clear e0 e1 e2 e3 e4 e5 el HC
      cases hq : decide ((((T ++ [40]) ++ X).length : Int) ≤ m) with
      | false =>
        have HF := Lib.hid (GotW.then (X := [40]) rfl HK3.out (GotW.full (Y := [41]) hq p2 p3 w4 k4))
        clear hq p1 p2 p3 w4 k4
        go_wp2
        go_ret
        exact HF.out
      | true =>
        have hT : T4 = (T ++ [40]) ++ X := p1 (of_decide_eq_true hq)
        subst hT
        have HP := Lib.hid (put1 (x := [41]) (w4.below ((Below.refl _ _).alloc (o := .cells #[.string ⟨#[41]⟩] 9) (Nat.le_refl _))) (heap_alloc_new _ _) (by have := w4.lt; omega) (by simp only [List.length_append, List.length_cons, List.length_nil]; omega))
        have HK4 := Lib.hid (k4.alloc (.cells #[.string ⟨#[41]⟩] 9))
        clear hq p1 p2 p3 w4 k4
        go_wp2_with fail
        refine HP.out.mono ?_
        intro r W5 hG
        obtain ⟨bv, rfl, hF⟩ := (GotW.then (X := [40]) rfl HK3.out (GotW.then (X := X) rfl HK4.out hG)).b
        have HF := Lib.hid hF
        clear hG hF
        clear HP HK4
        go_wp2
        go_ret
        exact HF.out
  · have hd : decide (bindX e.op < k) = false := decide_eq_false hlt
    rw [hd] at HL ⊢
    have HX : Hid (par false (txE e) = txE e) := rfl
    rw [HX.out] at HL ⊢
    have hge : k ≤ bindX e.op := by omega
    have HC := Lib.hid (HE.out T _ HW.out HL.out)
    generalize txE e = X at *
    generalize bindX e.op = bx at *
    rw [hj] at *
    clear hd hlt HE HL HX
    go_enter Tryz.func86, Tryz.ntmps86
    go_wp2_with fail
    refine HC.out.mono ?_
    intro r W3 hG
    obtain ⟨bv, rfl, hF⟩ := (GotW.then (X := []) (T := T) (by simp) HK.out hG).b
    have HF := Lib.hid hF
    clear hG hF
    clear HC
    go_wp2
    go_ret
    exact HF.out
end Go.Proofs.YtikohamfnnlhcaaGreatDoor
