/- The variables of terms, each once. Conditions: at most 90,000 terms. -/
import Derived.Test.YtlfakhjcpdkaiaaDoorTermN
import Derived.Maps.OwnSet
import Derived.SliceStrings
import Derived.StringKeys
set_option linter.unusedVariables false
set_option linter.unusedSimpArgs false
namespace Go.Proofs.YtlfakhjcpdkaiaaDoor
open Go.RowKit Go.Deep Go.Shelf Go.Maps Go.WideMaps

/-- a store into a map that is being written out. -/
theorem wpList_insert_own {H : Type} {P : Program} (w : World) {ops : Array Oper} {rest : List Oper} {o : Oper} {a : Act} {Q : Exit → Act → World → Prop}
    (hg : o.guard = none) (m x v : Operand) (t : TypeId) (hop : o.op = Op.insert t m x v)
    (k e : TypeId) (K : Keyed P k) (ht : P.underlying t = some (.map k e)) (R : Value → Option (DataW H × List MemPlace)) (b n : Nat) (D : DataW H)
    (hm : a.eval m = .map (some b)) (hown : w.ownsMap P k R b n D) (hn : n < maxLen) (key val : Value) (kl : Lit) (hx : a.eval x = key) (hv : a.eval v = val) (hkey : keyOf P k key = some kl)
    (d : DataW H) (ps : List MemPlace) (hval : R val = some (d, ps))
    (hK : ∀ w', w'.ownsMap P k R b (n + 1) (D.put kl d) → w.grownBy w' (some b) → wpList P ops Q rest (a.put o.dst undef) w') :
    wpList P ops Q (o :: rest) a w := by
  refine wpList_plain hg fun K' hK' => ?_
  obtain ⟨w', hrun, r1, r2⟩ := hown.update K ht hn hkey hval
  unfold Oper.wp
  simp [execOp, hop, hm, hx, hv, hrun, Result.andThen]
  exact hK' _ _ (hK w' r1 r2)
theorem keyedS : Keyed Tryd.prog 9 := string_keyed Tryd.underlying9
theorem zeroU (w : World) : (zeroValue 103).run Tryd.prog w = .ok (.agg #[]) w := by kernel_rfl
/-- a text as a key. -/
def kS (s : ByteArray) : Lit := .string s.data.toList
theorem kS_inj {a b : ByteArray} : (kS a).sameKey (kS b) = decide (a = b) := by
  unfold kS
  rw [Bool.eq_iff_iff]
  simp only [Lit.sameKey, decide_eq_true_eq]
  constructor
  · intro h
    have h : a.data.toList = b.data.toList := by simpa using h
    obtain ⟨⟨x⟩⟩ := a
    obtain ⟨⟨y⟩⟩ := b
    simpa using h
  · intro h
    rw [h]
    simp
/-- the set of what was seen. -/
def sdS (acc : List ByteArray) : DataW Unit := setOf (.agg []) ((noText :: acc).map kS)
theorem sdS_has (acc : List ByteArray) (x : ByteArray) : Maps.has (sdS acc) (kS x) = (decide (x.size = 0) || inL acc x) := by
  unfold sdS
  rw [has_setOf _ _ _ (fun y hy => by obtain ⟨_, _, rfl⟩ := List.mem_map.1 hy; trivial)]
  rw [List.map_cons, List.any_cons, kS_inj, List.any_map]
  congr 1
  · congr 1
    refine propext ⟨fun h => by rw [← h]; rfl, fun h => (empty_of h).symm⟩
  · unfold inL
    congr 1
    funext y
    exact kS_inj
theorem sdS_put (acc : List ByteArray) (x : ByteArray) : sdS (acc ++ [x]) = (sdS acc).put (kS x) (.agg []) := by
  unfold sdS
  rw [← List.cons_append, List.map_append, List.map_singleton, setOf_snoc]
theorem sdS_zero : sdS [] = (DataW.map [] : DataW Unit).put (kS noText) (.agg []) := by
  unfold sdS setOf
  rfl
/-- a list of texts of a call's own. -/
def OwnS (w0 : World) (L : List ByteArray) (e : Ending) (w' : World) : Prop :=
  ∃ A c, e = .returned (.slice A L.length c) ∧ w'.ownsRow w0.heap.size 9 1 (.slice A L.length c) L.length (L.map Value.string) ∧ (A = none → c = 0) ∧ Below w0.heap.size w0 w'
theorem infoStr' : (Tryd.prog.info? 9).map (fun i => (i.zero, i.size, i.bytes)) = some (some (.string noText), 1, 16) := by kernel_rfl
theorem row_neS {w : World} {base : Nat} {e : TypeId} {size : Nat} {v : Value} {n : Nat} {xs : List Value} (h : w.ownsRow base e size v n xs) {b : Nat} (hb : b < base) : some b ≠ v.ownBlock := fun e1 => by
  have := (h.lt b e1.symm).1
  omega
theorem own_lower {w : World} {base base' n k : Nat} {e : TypeId} {v : Value} {xs : List Value} (h : w.ownsRow base e k v n xs) (hb : base' ≤ base) : w.ownsRow base' e k v n xs :=
  ⟨h.1, h.2.imp id fun ⟨g, cap, cur, h1, h2, h4⟩ => ⟨g, cap, cur, h1, Nat.le_trans hb h2, h4⟩⟩
theorem grown_cell {w w' : World} {B b o : Nat} {v : Value} (h : w.grownBy w' (some B)) (hc : w.cell? ⟨b, o, none⟩ = some v) (hne : b ≠ B) : w'.cell? ⟨b, o, none⟩ = some v :=
  (World.cell?_of_block (w := w) (h.block b (World.block_lt_of_cell? w _ hc) (fun e => hne (by injection e)))).trans hc
set_option maxRecDepth 100000 in
set_option maxHeartbeats 1000000 in
theorem once_any (A : Option Addr) (c : Nat) (l : List TTm) (w : World) (hV : Rg 4 TmC w A l) (hsz : l.length ≤ 90000) :
    Calls Tryd.prog 33 #[.slice A l.length c] w (OwnS w (names [] l)) := by
  have hmm := @run_makeMap Tryd.prog
  obtain ⟨i0, hi, hz0, hz1, hz2⟩ := info_parts infoStr'
  have HV := Lib.hid hV
  have hkey0 : keyOf Tryd.prog 9 (.string ⟨#[]⟩) = some (kS noText) := keyOf_string_mk Tryd.underlying9 (by show 0 ≤ maxLen; unfold maxLen; omega)
  have hlen := hV.1
  clear hV
  go_enter Tryd.func33, Tryd.ntmps33
  go_wp2_with (refine wpList_insert_own _ (o := ⟨_, .insert 104 _ _ _, _, _, _, _⟩) rfl _ _ _ 104 rfl 9 103 keyedS Tryd.underlying104 (unitElem (H := Unit)) w.heap.size 0 _ rfl (World.ownsMap_made _ _ _ _) (by unfold maxLen; omega) _ _ _ rfl rfl hkey0 _ [] unitElem_mk ?_; intro w1 hown1 hgrow1)
  have hown1 : Hid (w1.ownsMap Tryd.prog 9 (unitElem (H := Unit)) w.heap.size 1 (sdS [])) := by show w1.ownsMap _ _ _ _ _ _; rw [sdS_zero]; exact hown1
  have HB1 : Hid (Below w.heap.size w w1) := ((Below.refl w.heap.size w).alloc (Nat.le_refl _) _).grown hgrow1 (by simp) (fun j hj => by cases hj; exact Nat.le_refl _)
  have HZ1 : Hid (w.heap.size + 1 ≤ w1.heap.size) := by have := hgrow1.size; simp at this; exact this
  clear hgrow1
  go_wp2_with fail
  go_loopw [4, 14] (fun v i wr => ∃ (j : Nat) (Aj : Option Addr) (cj : Nat), j ≤ l.length ∧ i = .int .i64 j ∧ v = .slice Aj (names [] (l.take j)).length cj ∧ Hid (wr.ownsMap Tryd.prog 9 (unitElem (H := Unit)) w.heap.size (j + 1) (sdS (names [] (l.take j)))) ∧
    Hid (wr.ownsRow (w.heap.size + 1) 9 1 (.slice Aj (names [] (l.take j)).length cj) (names [] (l.take j)).length ((names [] (l.take j)).map Value.string)) ∧ Hid (Aj = none → cj = 0) ∧ Hid (Below w.heap.size w wr) ∧ Hid (w.heap.size + 1 ≤ wr.heap.size)) (fun _ i _ => l.length - (intOf i).toNat)
  case atStart => exact ⟨0, none, 0, Nat.zero_le _, rfl, rfl, hown1, World.ownsRow_nil _ _ _ _, fun _ => rfl, HB1, HZ1⟩
  case round =>
    obtain ⟨j, Aj, cj, hj, rfl, rfl, HOM, HRw, HN, HB, HZ⟩ := hrel
    by_cases hlt : j < l.length
    · obtain ⟨b, o, rfl, hbw, c0, c1, c2, c3, hok⟩ := HV.out.at_ hlt
      have c0 := (HB.out.cell (p := ⟨b, _, none⟩) hbw).trans c0
      have c1 := (HB.out.cell (p := ⟨b, _, none⟩) hbw).trans c1
      have c2 := (HB.out.cell (p := ⟨b, _, none⟩) hbw).trans c2
      have c3 := (HB.out.cell (p := ⟨b, _, none⟩) hbw).trans c3
      have HS := Lib.hid (names_snoc [] hlt)
      have hnl : (names [] (l.take j)).length ≤ 90000 := by
        have h1 := names_len (l.take j) []
        have h2 := List.length_take_le j l
        simp only [List.length_nil, Nat.zero_add] at h1
        omega
      generalize l[j] = y at *
      generalize hN : names [] (l.take j) = N at *
      clear hN
      have hkey : keyOf Tryd.prog 9 (.string y.v) = some (kS y.v) := keyOf_string_mk Tryd.underlying9 (by have := hok.1; unfold maxLen; omega)
      have HKy := Lib.hid hkey
      have hhas := sdS_has N y.v
      clear hkey hok
      cases hq : (decide (y.v.size = 0) || inL N y.v) with
      | true =>
        rw [hq] at hhas
        have HE : Hid (names [] (l.take (j + 1)) = N) := by show _ = _; rw [HS.out]; unfold nmStep; rw [if_pos hq]
        have HBn : Hid (Below w.heap.size w ((wr.alloc (.cells #[.string y.v, .int .i64 y.k, .int .i64 y.n, .string y.s] 26)).alloc (.cells #[] 103))) := (HB.out.alloc HB.out.size _).alloc (Nat.le_trans HB.out.size (by simp)) _
        have HZn : Hid (w.heap.size + 1 ≤ ((wr.alloc (.cells #[.string y.v, .int .i64 y.k, .int .i64 y.n, .string y.s] 26)).alloc (.cells #[] 103)).heap.size) := Nat.le_trans HZ.out (by simp; omega)
        clear hq HS
        go_wp2_with (at_lookup; refine wpList_lookup_own_unit _ rfl _ _ 104 rfl 9 103 keyedS Tryd.underlying104 (zeroU _) w.heap.size (j + 1) _ rfl (HOM.out.alloc _) _ _ rfl HKy.out ?_)
        go_roundw
        case rel => exact ⟨j + 1, Aj, cj, by omega, by go_num, by rw [HE.out], by rw [HE.out]; exact ((HOM.out.alloc _).alloc _).mono (Nat.le_succ _), by rw [HE.out]; exact (HRw.out.alloc _).alloc _, HN, HBn, HZn⟩
        case measure => simp [intOf]; omega
      | false =>
        rw [hq] at hhas
        have HE : Hid (names [] (l.take (j + 1)) = N ++ [y.v]) := by show _ = _; rw [HS.out]; unfold nmStep; rw [if_neg (by rw [hq]; simp)]
        have HP := Lib.hid (sdS_put N y.v)
        have hone : ∀ u ∈ [Value.string y.v], u.oneCell' = true := by simp [Value.oneCell']
        have hz := HZ.out
        have HBX : Hid (((wr.alloc (.cells #[.string y.v, .int .i64 y.k, .int .i64 y.n, .string y.s] 26)).alloc (.cells #[] 103)).cell? ⟨wr.heap.size, 0, none⟩ = some (.string y.v)) := by show _ = _; simp
        have HNE : Hid (wr.heap.size ≠ w.heap.size) := by show _ ≠ _; omega
        clear hq HS
        go_wp2_with (first
          | (at_lookup; refine wpList_lookup_own_unit _ rfl _ _ 104 rfl 9 103 keyedS Tryd.underlying104 (zeroU _) w.heap.size (j + 1) _ rfl (HOM.out.alloc _) _ _ rfl HKy.out ?_)
          | (at_mapUpdate; refine wpList_mapUpdate_own _ rfl _ _ _ 104 rfl 9 103 keyedS Tryd.underlying104 (unitElem (H := Unit)) w.heap.size (j + 1) _ rfl ((HOM.out.alloc _).alloc _) (by unfold maxLen; omega) _ _ _ rfl rfl HKy.out _ [] unitElem_mk ?_; intro w3 hown3 hgrow3; have cb := grown_cell hgrow3 HBX.out HNE.out)
          | (at_builtin; refine wpList_append_own _ rfl _ _ 58 rfl (w.heap.size + 1) 9 i0 (.string noText) 1 16 Tryd.underlying58 hi hz0 hz1 hz2 rfl (by decide) _ _ _ rfl ((((HRw.out.alloc _).alloc _).kept hgrow3 (Or.inr (row_neS HRw.out (Nat.lt_succ_self _)).symm)).alloc _) ⟨w3.heap.size, 0, none⟩ 1 1 [.string y.v] rfl rfl (cell_one_new _ _ _) hone (by unfold maxLen; omega) (by omega) (by have := hgrow3.size; simp at this ⊢; omega) ?_; intro v' w4 hown4 hgrow4 hnil4))
        obtain ⟨A4, c4, rfl, hn4, hbl4⟩ := own_valueM hown4
        have s3 := hgrow3.size
        have s4 := hgrow4.size
        simp at s3 s4
        have hr3 := ((HRw.out.alloc _).alloc _).kept hgrow3 (Or.inr (row_neS HRw.out (Nat.lt_succ_self _)).symm)
        have HM4 := Lib.hid ((hown3.alloc (.cells #[.string y.v] 9)).kept hgrow4 (row_neS hr3 (Nat.lt_succ_self _)))
        have HB4 : Hid (Below w.heap.size w w4) := ((((HB.out.alloc HB.out.size _).alloc (by simp; omega) _).grown hgrow3 (by simp; omega) (fun j hj => by cases hj; exact Nat.le_refl _)).alloc (by omega) _).grown hgrow4 (by simp; omega) (fun j hj => Nat.le_trans (Nat.le_succ _) (hr3.lt j hj).1)
        have HR4 : Hid (w4.ownsRow (w.heap.size + 1) 9 1 (.slice A4 (N.length + 1) c4) (N.length + 1) ((N ++ [y.v]).map Value.string)) := by show w4.ownsRow _ _ _ _ _ _; rw [List.map_append]; exact hown4
        have HN4 := Lib.hid hn4
        have HZ4 : Hid (w.heap.size + 1 ≤ w4.heap.size) := by show _ ≤ _; omega
        clear cb hown3 hgrow3 hown4 hgrow4 hnil4 hn4 hbl4 hr3 s3 s4
        go_roundw
        case rel => exact ⟨j + 1, A4, c4, by omega, by go_num, by rw [HE.out]; simp, by rw [HE.out, HP.out]; exact HM4.out, by rw [HE.out]; simpa using HR4, HN4, HB4, HZ4⟩
        case measure => simp [intOf]; omega
    · have hjk : j = l.length := by omega
      have ef : names [] (l.take j) = names [] l := by rw [hjk, List.take_length]
      rw [ef] at HRw ⊢
      have HRf := Lib.hid (own_lower HRw.out (Nat.le_succ _))
      clear hjk ef
      go_wp2_with fail
      go_ret
      exact ⟨Aj, cj, rfl, HRf.out, HN.out, HB.out⟩
end Go.Proofs.YtlfakhjcpdkaiaaDoor
