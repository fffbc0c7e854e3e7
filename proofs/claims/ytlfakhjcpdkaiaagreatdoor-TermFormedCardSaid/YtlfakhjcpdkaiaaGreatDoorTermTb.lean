/- A literal of a row as mere values. Conditions: none. The variables of terms, each once. Conditions: at most 90,000 terms. Slices of terms that a call makes in a box: what is known of them; one term more; a literal's terms. Conditions: literals of at most 30,000 nodes. A literal's terms. Conditions: literals of at most 30,000 nodes. The variables of literals and rules. Conditions: of at most 30,000 nodes. A region that draws its order and whose operations each make a value and new memory at most, but for the last one: what is known of each value holds, whatever the order. Conditions: as the law says. The chapter's example. Conditions: none. -/
import Derived.Test.YtlfakhjcpdkaiaaGreatDoorTermW
import Derived.Test.YtlfakhjcpdkaiaaGreatDoorTermN
import Derived.Maps.OwnSet
import Derived.SliceStrings
import Derived.StringKeys
import Derived.Test.YtlfakhjcpdkaiaaGreatDoorLexH
import Derived.Maps.OwnIn
import Derived.Maps.AppendAt
import Derived.Test.YtlfakhjcpdkaiaaGreatDoorTermJ
import Derived.Test.YtlfakhjcpdkaiaaGreatDoorTermB
import Derived.RegionTactic
import Derived.Test.YtlfakhjcpdkaiaaGreatDoorTermL
set_option linter.unusedVariables false
set_option linter.unusedSimpArgs false
namespace Go.Proofs.YtlfakhjcpdkaiaaGreatDoor
open Go.RowKit Go.Deep Go.Shelf

/-- the cells of a literal as mere values, and what is known of the whole. -/
def LtX (w : World) (A : Option Addr) (j : Nat) (F : Value → Prop) : Prop :=
  ∃ (b o : Nat) (k0 k3 k4 k6 k7 k10 k12 k13 k16 : Int) (s1 s5 s8 s11 s14 : ByteArray) (A2 A9 A15 : Option Addr) (n2 m2 n9 m9 n15 m15 : Nat), A = some ⟨b, o, none⟩ ∧ b < w.heap.size ∧ (w.cell? ⟨b, o + j * 17, none⟩ = some (.int .i64 k0) ∧ w.cell? ⟨b, o + j * 17 + 1, none⟩ = some (.string s1) ∧ w.cell? ⟨b, o + j * 17 + 2, none⟩ = some (.slice A2 n2 m2) ∧ w.cell? ⟨b, o + j * 17 + 3, none⟩ = some (.int .i64 k3) ∧ w.cell? ⟨b, o + j * 17 + 4, none⟩ = some (.int .i64 k4) ∧ w.cell? ⟨b, o + j * 17 + 5, none⟩ = some (.string s5) ∧ w.cell? ⟨b, o + j * 17 + 6, none⟩ = some (.int .i64 k6) ∧ w.cell? ⟨b, o + j * 17 + 7, none⟩ = some (.int .i64 k7) ∧ w.cell? ⟨b, o + j * 17 + 8, none⟩ = some (.string s8) ∧ w.cell? ⟨b, o + j * 17 + 9, none⟩ = some (.slice A9 n9 m9) ∧ w.cell? ⟨b, o + j * 17 + 10, none⟩ = some (.int .i64 k10) ∧ w.cell? ⟨b, o + j * 17 + 11, none⟩ = some (.string s11) ∧ w.cell? ⟨b, o + j * 17 + 12, none⟩ = some (.int .i64 k12) ∧ w.cell? ⟨b, o + j * 17 + 13, none⟩ = some (.int .i64 k13) ∧ w.cell? ⟨b, o + j * 17 + 14, none⟩ = some (.string s14) ∧ w.cell? ⟨b, o + j * 17 + 15, none⟩ = some (.slice A15 n15 m15) ∧ w.cell? ⟨b, o + j * 17 + 16, none⟩ = some (.int .i64 k16)) ∧ F (.agg #[.int .i64 k0, .string s1, .slice A2 n2 m2, .int .i64 k3, .int .i64 k4, .string s5, .int .i64 k6, .int .i64 k7, .string s8, .slice A9 n9 m9, .int .i64 k10, .string s11, .int .i64 k12, .int .i64 k13, .string s14, .slice A15 n15 m15, .int .i64 k16])
theorem lt_x {w : World} {A : Option Addr} {l : List TLt} (hV : Rg 17 LtC w A l) {j : Nat} (h : j < l.length) {F : Value → Prop} (hF : ∀ AA ac L d R f, LtV w l[j] AA L R → F (ltV l[j] AA ac L d R f)) : LtX w A j F := by
  obtain ⟨b, o, hA, hbw, hc⟩ := hV.at_ h
  obtain ⟨AA, ac, L, lc, R, rc, ⟨c0, c1, c2, c3, ⟨c4, c5, c6, c7, c8, c9⟩, ⟨d0, d1, d2, d3, d4, d5⟩, c16⟩, hy⟩ := hc.open_
  exact ⟨b, o, _, _, _, _, _, _, _, _, _, _, _, _, _, _, _, _, _, _, _, _, _, _, _, hA, hbw, ⟨c0, c1, c2, c3, c4, c5, c6, c7, c8, c9, d0, d1, d2, d3, d4, d5, c16⟩, hF AA ac L lc R rc hy⟩
end Go.Proofs.YtlfakhjcpdkaiaaGreatDoor

set_option linter.unusedVariables false
set_option linter.unusedSimpArgs false
namespace Go.Proofs.YtlfakhjcpdkaiaaGreatDoor
open Go.RowKit Go.Deep Go.Shelf Go.Maps Go.WideMaps

/-- a store into a map that is being written out. -/
theorem wpList_insert_own {H : Type} {P : Program} (w : World) {ops : Array Oper} {rest : List Oper} {o : Oper} {a : Act} {Q : Exit → Act → World → Prop}
    (hg : o.guard = none) (m x v : Operand) (t : TypeId) (hop : o.op = Op.insert t m x v)
    (k e : TypeId) (K : Keyed P k) (ht : P.underlying t = some (.map k e)) (R : Value → Option (DataW H × List MemPlace)) (b n : Nat) (D : DataW H)
    (hm : a.eval m = .map (some b)) (hown : w.ownsMap P k R b n D) (hn : n < maxLen) (key val : Value) (kl : Lit) (hx : a.eval x = key) (hv : a.eval v = val) (hkey : keyOf P k key = some kl)
    (d : DataW H) (ps : List MemPlace) (hval : R val = some (d, ps))
    (hK : ∀ w', w'.ownsMap P k R b (n + 1) (D.put kl d) → w.grownBy w' (some b) → wpList P ops Q rest (a.put o.dst undef) w') :
    wpList P ops Q (o :: rest) a w := by
  refine wpList_plain hg fun K' hK' => ?_
  obtain ⟨w', hrun, r1, r2⟩ := hown.update K ht hn hkey hval
  unfold Oper.wp
  simp [execOp, hop, hm, hx, hv, hrun, Result.andThen]
  exact hK' _ _ (hK w' r1 r2)
theorem keyedS : Keyed Tryz.prog 9 := string_keyed Tryz.underlying9
theorem zeroU (w : World) : (zeroValue 115).run Tryz.prog w = .ok (.agg #[]) w := by kernel_rfl
/-- a text as a key. -/
def kS (s : ByteArray) : Lit := .string s.data.toList
theorem kS_inj {a b : ByteArray} : (kS a).sameKey (kS b) = decide (a = b) := by
  unfold kS
  rw [Bool.eq_iff_iff]
  simp only [Lit.sameKey, decide_eq_true_eq]
  constructor
  · intro h
    have h : a.data.toList = b.data.toList := by simpa using h
    obtain ⟨⟨x⟩⟩ := a
    obtain ⟨⟨y⟩⟩ := b
    simpa using h
  · intro h
    rw [h]
    simp
/-- the set of what was seen. -/
def sdS (acc : List ByteArray) : DataW Unit := setOf (.agg []) ((noText :: acc).map kS)
theorem sdS_has (acc : List ByteArray) (x : ByteArray) : Maps.has (sdS acc) (kS x) = (decide (x.size = 0) || inL acc x) := by
  unfold sdS
  rw [has_setOf _ _ _ (fun y hy => by obtain ⟨_, _, rfl⟩ := List.mem_map.1 hy; trivial)]
  rw [List.map_cons, List.any_cons, kS_inj, List.any_map]
  congr 1
  · congr 1
    refine propext ⟨fun h => by rw [← h]; rfl, fun h => (empty_of h).symm⟩
  · unfold inL
    congr 1
    funext y
    exact kS_inj
theorem sdS_put (acc : List ByteArray) (x : ByteArray) : sdS (acc ++ [x]) = (sdS acc).put (kS x) (.agg []) := by
  unfold sdS
  rw [← List.cons_append, List.map_append, List.map_singleton, setOf_snoc]
theorem sdS_zero : sdS [] = (DataW.map [] : DataW Unit).put (kS noText) (.agg []) := by
  unfold sdS setOf
  rfl
/-- a list of texts of a call's own. -/
def OwnS (w0 : World) (L : List ByteArray) (e : Ending) (w' : World) : Prop :=
  ∃ A c, e = .returned (.slice A L.length c) ∧ w'.ownsRow w0.heap.size 9 1 (.slice A L.length c) L.length (L.map Value.string) ∧ (A = none → c = 0) ∧ Below w0.heap.size w0 w'
theorem infoStr' : (Tryz.prog.info? 9).map (fun i => (i.zero, i.size, i.bytes)) = some (some (.string noText), 1, 16) := by kernel_rfl
theorem row_neS {w : World} {base : Nat} {e : TypeId} {size : Nat} {v : Value} {n : Nat} {xs : List Value} (h : w.ownsRow base e size v n xs) {b : Nat} (hb : b < base) : some b ≠ v.ownBlock := fun e1 => by
  have := (h.lt b e1.symm).1
  omega
theorem own_lower {w : World} {base base' n k : Nat} {e : TypeId} {v : Value} {xs : List Value} (h : w.ownsRow base e k v n xs) (hb : base' ≤ base) : w.ownsRow base' e k v n xs :=
  ⟨h.1, h.2.imp id fun ⟨g, cap, cur, h1, h2, h4⟩ => ⟨g, cap, cur, h1, Nat.le_trans hb h2, h4⟩⟩
theorem grown_cell {w w' : World} {B b o : Nat} {v : Value} (h : w.grownBy w' (some B)) (hc : w.cell? ⟨b, o, none⟩ = some v) (hne : b ≠ B) : w'.cell? ⟨b, o, none⟩ = some v :=
  (World.cell?_of_block (w := w) (h.block b (World.block_lt_of_cell? w _ hc) (fun e => hne (by injection e)))).trans hc
set_option maxRecDepth 100000 in
set_option maxHeartbeats 1000000 in
theorem once_any (A : Option Addr) (c : Nat) (l : List TTm) (w : World) (hV : Rg 4 TmC w A l) (hsz : l.length ≤ 90000) :
    Calls Tryz.prog 30 #[.slice A l.length c] w (OwnS w (names [] l)) := by
  have hmm := @run_makeMap Tryz.prog
  obtain ⟨i0, hi, hz0, hz1, hz2⟩ := info_parts infoStr'
  have HV := Lib.hid hV
  have hkey0 : keyOf Tryz.prog 9 (.string ⟨#[]⟩) = some (kS noText) := keyOf_string_mk Tryz.underlying9 (by show 0 ≤ maxLen; unfold maxLen; omega)
  have hlen := hV.1
  clear hV
  go_enter Tryz.func30, Tryz.ntmps30
  go_wp2_with (refine wpList_insert_own _ (o := ⟨_, .insert 116 _ _ _, _, _, _, _⟩) rfl _ _ _ 116 rfl 9 115 keyedS Tryz.underlying116 (unitElem (H := Unit)) w.heap.size 0 _ rfl (World.ownsMap_made _ _ _ _) (by unfold maxLen; omega) _ _ _ rfl rfl hkey0 _ [] unitElem_mk ?_; intro w1 hown1 hgrow1)
  have hown1 : Hid (w1.ownsMap Tryz.prog 9 (unitElem (H := Unit)) w.heap.size 1 (sdS [])) := by show w1.ownsMap _ _ _ _ _ _; rw [sdS_zero]; exact hown1
  have HB1 : Hid (Below w.heap.size w w1) := ((Below.refl w.heap.size w).alloc (Nat.le_refl _) _).grown hgrow1 (by simp) (fun j hj => by cases hj; exact Nat.le_refl _)
  have HZ1 : Hid (w.heap.size + 1 ≤ w1.heap.size) := by have := hgrow1.size; simp at this; exact this
  clear hgrow1
  go_wp2_with fail
  go_loopw [4, 14] (fun v i wr => ∃ (j : Nat) (Aj : Option Addr) (cj : Nat), j ≤ l.length ∧ i = .int .i64 j ∧ v = .slice Aj (names [] (l.take j)).length cj ∧ Hid (wr.ownsMap Tryz.prog 9 (unitElem (H := Unit)) w.heap.size (j + 1) (sdS (names [] (l.take j)))) ∧
    Hid (wr.ownsRow (w.heap.size + 1) 9 1 (.slice Aj (names [] (l.take j)).length cj) (names [] (l.take j)).length ((names [] (l.take j)).map Value.string)) ∧ Hid (Aj = none → cj = 0) ∧ Hid (Below w.heap.size w wr) ∧ Hid (w.heap.size + 1 ≤ wr.heap.size)) (fun _ i _ => l.length - (intOf i).toNat)
  case atStart => exact ⟨0, none, 0, Nat.zero_le _, rfl, rfl, hown1, World.ownsRow_nil _ _ _ _, fun _ => rfl, HB1, HZ1⟩
  case round =>
    obtain ⟨j, Aj, cj, hj, rfl, rfl, HOM, HRw, HN, HB, HZ⟩ := hrel
    by_cases hlt : j < l.length
    · obtain ⟨b, o, rfl, hbw, c0, c1, c2, c3, hok⟩ := HV.out.at_ hlt
      have c0 := (HB.out.cell (p := ⟨b, _, none⟩) hbw).trans c0
      have c1 := (HB.out.cell (p := ⟨b, _, none⟩) hbw).trans c1
      have c2 := (HB.out.cell (p := ⟨b, _, none⟩) hbw).trans c2
      have c3 := (HB.out.cell (p := ⟨b, _, none⟩) hbw).trans c3
      have HS := Lib.hid (names_snoc [] hlt)
      have hnl : (names [] (l.take j)).length ≤ 90000 := by
        have h1 := names_len (l.take j) []
        have h2 := List.length_take_le j l
        simp only [List.length_nil, Nat.zero_add] at h1
        omega
      generalize l[j] = y at *
      generalize hN : names [] (l.take j) = N at *
      clear hN
      have hkey : keyOf Tryz.prog 9 (.string y.v) = some (kS y.v) := keyOf_string_mk Tryz.underlying9 (by have := hok.1; unfold maxLen; omega)
      have HKy := Lib.hid hkey
      have hhas := sdS_has N y.v
      clear hkey hok
      cases hq : (decide (y.v.size = 0) || inL N y.v) with
      | true =>
        rw [hq] at hhas
        have HE : Hid (names [] (l.take (j + 1)) = N) := by show _ = _; rw [HS.out]; unfold nmStep; rw [if_pos hq]
        have HBn : Hid (Below w.heap.size w ((wr.alloc (.cells #[.string y.v, .int .i64 y.k, .int .i64 y.n, .string y.s] 41)).alloc (.cells #[] 115))) := (HB.out.alloc HB.out.size _).alloc (Nat.le_trans HB.out.size (by simp)) _
        have HZn : Hid (w.heap.size + 1 ≤ ((wr.alloc (.cells #[.string y.v, .int .i64 y.k, .int .i64 y.n, .string y.s] 41)).alloc (.cells #[] 115)).heap.size) := Nat.le_trans HZ.out (by simp; omega)
        clear hq HS
        go_wp2_with (at_lookup; refine wpList_lookup_own_unit _ rfl _ _ 116 rfl 9 115 keyedS Tryz.underlying116 (zeroU _) w.heap.size (j + 1) _ rfl (HOM.out.alloc _) _ _ rfl HKy.out ?_)
        go_roundw
        case rel => exact ⟨j + 1, Aj, cj, by omega, by go_num, by rw [HE.out], by rw [HE.out]; exact ((HOM.out.alloc _).alloc _).mono (Nat.le_succ _), by rw [HE.out]; exact (HRw.out.alloc _).alloc _, HN, HBn, HZn⟩
        case measure => simp [intOf]; omega
      | false =>
        rw [hq] at hhas
        have HE : Hid (names [] (l.take (j + 1)) = N ++ [y.v]) := by show _ = _; rw [HS.out]; unfold nmStep; rw [if_neg (by rw [hq]; simp)]
        have HP := Lib.hid (sdS_put N y.v)
        have hone : ∀ u ∈ [Value.string y.v], u.oneCell' = true := by simp [Value.oneCell']
        have hz := HZ.out
        have HBX : Hid (((wr.alloc (.cells #[.string y.v, .int .i64 y.k, .int .i64 y.n, .string y.s] 41)).alloc (.cells #[] 115)).cell? ⟨wr.heap.size, 0, none⟩ = some (.string y.v)) := by show _ = _; simp
        have HNE : Hid (wr.heap.size ≠ w.heap.size) := by show _ ≠ _; omega
        clear hq HS
        go_wp2_with (first
          | (at_lookup; refine wpList_lookup_own_unit _ rfl _ _ 116 rfl 9 115 keyedS Tryz.underlying116 (zeroU _) w.heap.size (j + 1) _ rfl (HOM.out.alloc _) _ _ rfl HKy.out ?_)
          | (at_mapUpdate; refine wpList_mapUpdate_own _ rfl _ _ _ 116 rfl 9 115 keyedS Tryz.underlying116 (unitElem (H := Unit)) w.heap.size (j + 1) _ rfl ((HOM.out.alloc _).alloc _) (by unfold maxLen; omega) _ _ _ rfl rfl HKy.out _ [] unitElem_mk ?_; intro w3 hown3 hgrow3; have cb := grown_cell hgrow3 HBX.out HNE.out)
          | (at_builtin; refine wpList_append_own _ rfl _ _ 56 rfl (w.heap.size + 1) 9 i0 (.string noText) 1 16 Tryz.underlying56 hi hz0 hz1 hz2 rfl (by decide) _ _ _ rfl ((((HRw.out.alloc _).alloc _).kept hgrow3 (Or.inr (row_neS HRw.out (Nat.lt_succ_self _)).symm)).alloc _) ⟨w3.heap.size, 0, none⟩ 1 1 [.string y.v] rfl rfl (cell_one_new _ _ _) hone (by unfold maxLen; omega) (by omega) (by have := hgrow3.size; simp at this ⊢; omega) ?_; intro v' w4 hown4 hgrow4 hnil4))
        obtain ⟨A4, c4, rfl, hn4, hbl4⟩ := own_valueM hown4
        have s3 := hgrow3.size
        have s4 := hgrow4.size
        simp at s3 s4
        have hr3 := ((HRw.out.alloc _).alloc _).kept hgrow3 (Or.inr (row_neS HRw.out (Nat.lt_succ_self _)).symm)
        have HM4 := Lib.hid ((hown3.alloc (.cells #[.string y.v] 9)).kept hgrow4 (row_neS hr3 (Nat.lt_succ_self _)))
        have HB4 : Hid (Below w.heap.size w w4) := ((((HB.out.alloc HB.out.size _).alloc (by simp; omega) _).grown hgrow3 (by simp; omega) (fun j hj => by cases hj; exact Nat.le_refl _)).alloc (by omega) _).grown hgrow4 (by simp; omega) (fun j hj => Nat.le_trans (Nat.le_succ _) (hr3.lt j hj).1)
        have HR4 : Hid (w4.ownsRow (w.heap.size + 1) 9 1 (.slice A4 (N.length + 1) c4) (N.length + 1) ((N ++ [y.v]).map Value.string)) := by show w4.ownsRow _ _ _ _ _ _; rw [List.map_append]; exact hown4
        have HN4 := Lib.hid hn4
        have HZ4 : Hid (w.heap.size + 1 ≤ w4.heap.size) := by show _ ≤ _; omega
        clear cb hown3 hgrow3 hown4 hgrow4 hnil4 hn4 hbl4 hr3 s3 s4
        go_roundw
        case rel => exact ⟨j + 1, A4, c4, by omega, by go_num, by rw [HE.out]; simp, by rw [HE.out, HP.out]; exact HM4.out, by rw [HE.out]; simpa using HR4, HN4, HB4, HZ4⟩
        case measure => simp [intOf]; omega
    · have hjk : j = l.length := by omega
      have ef : names [] (l.take j) = names [] l := by rw [hjk, List.take_length]
      rw [ef] at HRw ⊢
      have HRf := Lib.hid (own_lower HRw.out (Nat.le_succ _))
      clear hjk ef
      go_wp2_with fail
      go_ret
      exact ⟨Aj, cj, rfl, HRf.out, HN.out, HB.out⟩
end Go.Proofs.YtlfakhjcpdkaiaaGreatDoor

set_option linter.unusedVariables false
set_option linter.unusedSimpArgs false
namespace Go.Proofs.YtlfakhjcpdkaiaaGreatDoor
open Go.RowKit Go.Deep Go.Shelf
attribute [local go_sem] Oper.semAt_some

/-- a term's cells. -/
abbrev tmC (x : TTm) : List Value := [.string x.v, .int .i64 x.k, .int .i64 x.n, .string x.s]
/-- a slice of terms in a block of its own. -/
def MArr (e : TypeId) (w : World) (v : Value) (L : List TTm) (G : List Nat) : Prop :=
  (v = .slice none 0 0 ∧ L = [] ∧ G = []) ∨ ∃ g cap sp, v = .slice (some ⟨g, 0, none⟩) L.length cap ∧ G = [g] ∧ L.length ≤ cap ∧ cap ≤ maxLen ∧ Own w g e (flatM L ++ sp) ∧ (flatM L ++ sp).length = cap * 4
section
variable {e : TypeId} {w w' : World} {v : Value} {L : List TTm} {G S : List Nat}
theorem MArr.kept (h : MArr e w v L G) (hk : Kept S w w') (hn : ∀ g ∈ G, g ∉ S) : MArr e w' v L G := by
  rcases h with h | ⟨g, cap, sp, h1, rfl, h3, h4, h5, h6⟩
  · exact .inl h
  · exact .inr ⟨g, cap, sp, h1, rfl, h3, h4, hk.own h5 (hn g (by simp)), h6⟩
theorem MArr.calm {B : Nat} (h : MArr e w v L G) (hk : Calm B w w') : MArr e w' v L G := by
  rcases h with h | ⟨g, cap, sp, h1, h2, h3, h4, h5, h6⟩
  · exact .inl h
  · exact .inr ⟨g, cap, sp, h1, h2, h3, h4, hk.own h5, h6⟩
theorem MArr.block (h : MArr e w v L G) : ∀ k, v.ownBlock = some k → k ∈ G := by
  intro k hk
  rcases h with ⟨rfl, _⟩ | ⟨g, cap, sp, rfl, rfl, _⟩
  · cases hk
  · injection hk with hk
    simp [← hk]
theorem MArr.val (h : MArr e w v L G) : ∃ A c, v = .slice A L.length c ∧ (A = none → c = 0) := by
  rcases h with ⟨rfl, rfl, _⟩ | ⟨g, cap, sp, rfl, _⟩
  · exact ⟨none, 0, rfl, fun _ => rfl⟩
  · exact ⟨_, _, rfl, fun h => by cases h⟩
theorem MArr.owns (h : MArr e w v L G) : w.ownsRow 0 e 4 v L.length (flatM L) := by
  refine ⟨flatM_len L, ?_⟩
  rcases h with ⟨rfl, rfl, _⟩ | ⟨g, cap, sp, rfl, _, h3, h4, h5, h6⟩
  · exact .inl ⟨rfl, rfl⟩
  · refine .inr ⟨g, cap, _, rfl, Nat.zero_le _, h5, h3, h4, by simpa using h6, ?_⟩
    rw [← flatM_len L]
    simp
theorem MArr.of_owns {g n cap : Nat} (h : w.ownsRow 0 e 4 (.slice (some ⟨g, 0, none⟩) n cap) n (flatM L)) : MArr e w (.slice (some ⟨g, 0, none⟩) n cap) L [g] := by
  obtain ⟨h1, ⟨h2, _⟩ | ⟨g', cap', cur, h2, _, h3, h4, h5, h6, h7⟩⟩ := h
  · cases h2
  · injection h2 with a1 _ a3
    injection a1 with a1
    injection a1 with a1
    subst a1 a3
    have hn : L.length = n := by
      have := flatM_len L
      omega
    refine .inr ⟨g, cap, cur.toList.drop (n * 4), by rw [hn], rfl, by omega, h5, ?_, ?_⟩
    · have e1 : flatM L ++ cur.toList.drop (n * 4) = cur.toList := by rw [← h7, List.take_append_drop]
      unfold Own
      rw [h3, e1]
    · rw [← h7, List.take_append_drop]
      simpa using h6
theorem MArr.row (h : MArr e w v L G) (hok : ∀ t ∈ L, okTm t) (hl : L.length ≤ 100000) : ∃ A c, v = .slice A L.length c ∧ (A = none → c = 0) ∧ Rg 4 TmC w A L := by
  rcases h with ⟨rfl, rfl, _⟩ | ⟨g, cap, sp, rfl, _, h3, h4, h5, h6⟩
  · exact ⟨none, 0, rfl, fun _ => rfl, Rg.nil⟩
  · refine ⟨_, _, rfl, (fun h => by cases h), ⟨by omega, fun _ => ⟨g, 0, rfl, h5.lt, fun i x hx => ?_⟩⟩⟩
    have hi : i < L.length := (List.getElem?_eq_some_iff.1 hx).1
    have hl := flatM_len L
    obtain ⟨c0, c1, c2, c3⟩ := flatM_at L i x hx
    have hq := hok x (List.mem_of_getElem? hx)
    unfold TmC
    rw [Nat.zero_add, h5.cell, h5.cell, h5.cell, h5.cell, List.getElem?_append_left (by omega), List.getElem?_append_left (by omega), List.getElem?_append_left (by omega), List.getElem?_append_left (by omega)]
    exact ⟨c0, c1, c2, c3, hq⟩
theorem MArr.owns_at (h : MArr e w v L G) {n0 : Nat} (hG : ∀ g ∈ G, n0 ≤ g) : w.ownsRow n0 e 4 v L.length (flatM L) := by
  obtain ⟨h1, h2⟩ := h.owns
  refine ⟨h1, h2.imp id fun ⟨g, cap, cur, h3, _, h4⟩ => ⟨g, cap, cur, h3, hG g ?_, h4⟩⟩
  subst h3
  exact h.block g rfl
theorem MArr.of_own {n0 : Nat} {A : Option Addr} {c : Nat} (h : w.ownsRow n0 e 4 (.slice A L.length c) L.length (flatM L)) : ∃ G, MArr e w (.slice A L.length c) L G ∧ ∀ g ∈ G, n0 ≤ g ∧ g < w.heap.size := by
  rcases h.2 with ⟨h1, h2⟩ | ⟨g, cap, cur, h1, hb, hc, hr⟩
  · have : L = [] := List.eq_nil_of_length_eq_zero h2
    subst this
    exact ⟨[], .inl ⟨h1, rfl, rfl⟩, fun _ h => by cases h⟩
  · injection h1 with h1 _ h3
    subst h1 h3
    exact ⟨[g], MArr.of_owns ⟨h.1, .inr ⟨g, c, cur, rfl, Nat.zero_le _, hc, hr⟩⟩, fun k hk => by
      simp only [List.mem_singleton] at hk
      subst hk
      exact ⟨hb, (Array.getElem?_eq_some_iff.1 hc).1⟩⟩
end
/-- one term more in the slice, stored in its box. -/
theorem m_step {e tv : TypeId} {W w1 : World} {b5 B0 n g cap n0 : Nat} {pre : List TTm} {x : TTm} {v : Value} {G : List Nat} {tmp : Obj}
    (hO : Own W b5 tv [v]) (ha : MArr e W v pre G) (hG : ∀ k ∈ G, b5 ≠ k ∧ n0 ≤ k) (hn0 : n0 ≤ b5)
    (ho : w1.ownsRow 0 e 4 (.slice (some ⟨g, 0, none⟩) n cap) n (flatM pre ++ tmC x)) (hg : (W.alloc tmp).grownBy w1 v.ownBlock) (hat : (Value.slice (some ⟨g, 0, none⟩) n cap).ownBlock = v.ownBlock ∨ (Value.slice (some ⟨g, 0, none⟩) n cap).ownBlock = some (W.alloc tmp).heap.size) :
    Own w1 b5 tv [v] ∧ KeepsFrom B0 W (w1.setCell ⟨b5, 0, none⟩ (.slice (some ⟨g, 0, none⟩) n cap)) ∧ Kf [] b5 0 W (w1.setCell ⟨b5, 0, none⟩ (.slice (some ⟨g, 0, none⟩) n cap)) ∧ Own (w1.setCell ⟨b5, 0, none⟩ (.slice (some ⟨g, 0, none⟩) n cap)) b5 tv [.slice (some ⟨g, 0, none⟩) n cap] ∧
      MArr e (w1.setCell ⟨b5, 0, none⟩ (.slice (some ⟨g, 0, none⟩) n cap)) (.slice (some ⟨g, 0, none⟩) n cap) (pre ++ [x]) [g] ∧ (b5 ≠ g ∧ n0 ≤ g) ∧ Kept (b5 :: G) W (w1.setCell ⟨b5, 0, none⟩ (.slice (some ⟨g, 0, none⟩) n cap)) := by
  have q5 := hO.lt
  have hf : footL [] b5 0 W = b5 :: G := by
    unfold footL
    rw [hO.cell 0]
    rcases ha with ⟨rfl, _, rfl⟩ | ⟨g', cap', sp, rfl, rfl, _⟩ <;> rfl
  have hbl := ha.block
  have kw1 : Kept G W w1 := ((Kept.refl G W).alloc tmp).trans (Kept.grown hg hbl) (fun k hk => .inl hk)
  have k3 : Kept (b5 :: G) W (w1.setCell ⟨b5, 0, none⟩ (.slice (some ⟨g, 0, none⟩) n cap)) := (kw1.more (fun k hk => List.mem_cons_of_mem _ hk)).setCell (.inl (by simp)) _
  have hgG : g ∈ G ∨ W.heap.size < g := by
    rcases hat with h | h
    · exact .inl (hbl g h.symm)
    · injection h with h
      simp at h
      omega
  have hgw : b5 ≠ g ∧ n0 ≤ g := by
    rcases hgG with h | h
    · exact hG g h
    · omega
  have hnG : b5 ∉ G := fun h => (hG _ h).1 rfl
  have hO1 : Own w1 b5 tv [v] := kw1.own hO hnG
  have hO3 := hO1.set 0 (.slice (some ⟨g, 0, none⟩) n cap)
  have ha1 : MArr e w1 (.slice (some ⟨g, 0, none⟩) n cap) (pre ++ [x]) [g] := MArr.of_owns (by rw [flatM_append]; exact ho)
  have ha3 : MArr e (w1.setCell ⟨b5, 0, none⟩ (.slice (some ⟨g, 0, none⟩) n cap)) (.slice (some ⟨g, 0, none⟩) n cap) (pre ++ [x]) [g] :=
    ha1.kept ((Kept.refl [b5] w1).setCell (.inl (by simp)) _) (fun k hk => by simp only [List.mem_singleton] at hk ⊢; omega)
  have hf3 : footL [] b5 0 (w1.setCell ⟨b5, 0, none⟩ (.slice (some ⟨g, 0, none⟩) n cap)) = b5 :: [g] := by
    unfold footL
    rw [hO3.cell 0]
    rfl
  have hsub : Sub (b5 :: [g]) (b5 :: G) W.heap.size := fun k hk => by
    simp only [List.mem_cons, List.not_mem_nil, or_false] at hk
    rcases hk with rfl | rfl
    · exact .inl (by simp)
    · rcases hgG with h | h
      · exact .inl (by simp [h])
      · exact .inr (Nat.le_of_lt h)
  have hcells : ∀ k ∈ b5 :: G, ∀ o, W.heap[k]? = some o → o.isCells = true := fun k hk o ho => by
    rcases List.mem_cons.1 hk with rfl | hk
    · unfold Own at hO
      rw [hO] at ho
      cases ho
      rfl
    · rcases ha with ⟨_, _, rfl⟩ | ⟨g', cap', sp, _, rfl, _, _, h3, _⟩
      · cases hk
      · simp only [List.mem_singleton] at hk
        subst hk
        unfold Own at h3
        rw [h3] at ho
        cases ho
        rfl
  refine ⟨hO1, k3.keeps hcells _, Kf.of_kept k3 (fun k hk => by rw [hf]; exact hk) (by rw [hf, hf3]; exact hsub) (fun k hk => ?_), hO3, ha3, hgw, k3⟩
  rw [hf3] at hk
  simp only [List.mem_cons, List.not_mem_nil, or_false] at hk
  rcases hk with rfl | rfl
  · exact hO3.lt
  · rcases ha3 with ⟨h, _⟩ | ⟨g', cap', sp, h, hgg, _, _, h3, _⟩
    · cases h
    · injection hgg with hgg
      subst hgg
      exact h3.lt
/-- the box of a list of terms, between two rounds. -/
structure TsI (w : World) (b3 : Nat) (L : List TTm) (Ds : List Nat) (W : World) : Prop where
  o3 : ∃ v G, Own W b3 42 [v] ∧ MArr 41 W v L G ∧ ∀ g ∈ G, b3 ≠ g ∧ w.heap.size ≤ g
  ds : ∀ D ∈ Ds, W.heap[D]? = some (.deferred (some []))
  low : Below w.heap.size w W
  le : w.heap.size ≤ b3
section
variable {w X Y : World} {b3 B : Nat} {L : List TTm} {Ds : List Nat}
theorem TsI.calm (h : TsI w b3 L Ds X) (hc : Calm B X Y) (hB : w.heap.size ≤ B) (hD : ∀ D ∈ Ds, D < B) : TsI w b3 L Ds Y := by
  obtain ⟨⟨v, G, h1, h2, h3⟩, h4, h5, h6⟩ := h
  exact ⟨⟨v, G, hc.own h1, h2.calm hc, h3⟩, fun D hd => hc.block D _ (h4 D hd) (.inl (hD D hd)), Below.calm h5 hc (Nat.le_refl _) hB, h6⟩
theorem TsI.below (h : TsI w b3 L Ds X) (hb : Below X.heap.size X Y) : TsI w b3 L Ds Y := h.calm (B := X.heap.size) (Calm.of_below _ hb) h.low.size fun D hD => (Array.getElem?_eq_some_iff.1 (h.ds D hD)).1
theorem TsI.step {W w1 : World} {x : TTm} {v : Value} {G : List Nat} {B0 n g cap : Nat} {tmp : Obj} (h : TsI w b3 L Ds W)
    (hO : Own W b3 42 [v]) (ha : MArr 41 W v L G) (hG : ∀ k ∈ G, b3 ≠ k ∧ w.heap.size ≤ k)
    (ho : w1.ownsRow 0 41 4 (.slice (some ⟨g, 0, none⟩) n cap) n (flatM L ++ tmC x)) (hg : (W.alloc tmp).grownBy w1 v.ownBlock) (hat : (Value.slice (some ⟨g, 0, none⟩) n cap).ownBlock = v.ownBlock ∨ (Value.slice (some ⟨g, 0, none⟩) n cap).ownBlock = some (W.alloc tmp).heap.size) :
    Own w1 b3 42 [v] ∧ KeepsFrom B0 W (w1.setCell ⟨b3, 0, none⟩ (.slice (some ⟨g, 0, none⟩) n cap)) ∧ Kf [] b3 0 W (w1.setCell ⟨b3, 0, none⟩ (.slice (some ⟨g, 0, none⟩) n cap)) ∧ TsI w b3 (L ++ [x]) Ds (w1.setCell ⟨b3, 0, none⟩ (.slice (some ⟨g, 0, none⟩) n cap)) := by
  obtain ⟨h1, h2, h3, h4, h5, h6, h7⟩ := m_step (B0 := B0) hO ha hG h.le ho hg hat
  refine ⟨h1, h2, h3, ⟨⟨_, _, h4, h5, fun k hk => ?_⟩, fun D hD => ?_, h.low.trans (h7.below h.low.size fun k hk => ?_), h.le⟩⟩
  · simp only [List.mem_singleton] at hk
    subst hk
    exact h6
  · have hd := h.ds D hD
    refine (h7.block D (Array.getElem?_eq_some_iff.1 hd).1 fun hm => ?_).trans hd
    rcases List.mem_cons.1 hm with rfl | hm
    · unfold Own at hO
      rw [hO] at hd
      cases hd
    · rcases ha with ⟨_, _, rfl⟩ | ⟨g', cap', sp, _, rfl, _, _, h3, _⟩
      · cases hm
      · simp only [List.mem_singleton] at hm
        subst hm
        unfold Own at h3
        rw [h3] at hd
        cases hd
  · rcases List.mem_cons.1 hk with rfl | hk
    · exact h.le
    · exact (hG _ hk).2
end
theorem owns_val4 {w : World} {base n : Nat} {e : TypeId} {v : Value} {xs : List Value} (h : w.ownsRow base e 4 v (n + 1) xs) : ∃ g cap, v = .slice (some ⟨g, 0, none⟩) (n + 1) cap := by
  obtain ⟨_, ⟨_, h2⟩ | ⟨g, cap, cur, h2, _⟩⟩ := h
  · omega
  · exact ⟨g, cap, h2⟩
end Go.Proofs.YtlfakhjcpdkaiaaGreatDoor

set_option linter.unusedVariables false
set_option linter.unusedSimpArgs false
namespace Go.Proofs.YtlfakhjcpdkaiaaGreatDoor
open Go.RowKit Go.Deep Go.Shelf
attribute [local go_sem] Oper.semAt_some

section
variable {w W : World} {b3 : Nat} {L : List TTm} {Ds : List Nat}
theorem TsI.b3lt (h : TsI w b3 L Ds W) : b3 < W.heap.size := by
  obtain ⟨⟨v, G, h1, _⟩, _⟩ := h
  exact h1.lt
theorem TsI.foot_lt (h : TsI w b3 L Ds W) : ∀ k ∈ footL [] b3 0 W, k < W.heap.size := by
  obtain ⟨⟨v, G, h1, h2, _⟩, _⟩ := h
  intro k hk
  unfold footL at hk
  rw [h1.cell 0] at hk
  rcases h2 with ⟨rfl, _, _⟩ | ⟨g, cap, sp, rfl, _, _, _, h5, _⟩
  · simp at hk
    rw [hk]
    exact h1.lt
  · simp at hk
    rcases hk with rfl | rfl
    · exact h1.lt
    · exact h5.lt
theorem TsI.mark {D : Nat} (h : TsI w b3 L Ds W) (hD : W.heap[D]? = some (.deferred (some []))) : TsI w b3 L (D :: Ds) W :=
  ⟨h.o3, fun k hk => by
    rcases List.mem_cons.1 hk with rfl | hk
    · exact hD
    · exact h.ds k hk, h.low, h.le⟩
end
set_option maxRecDepth 100000 in
set_option maxHeartbeats 2000000 in
theorem ltTerms_any (x : TLt) (A : Option Addr) (c : Nat) (L : Option Addr) (d : Nat) (R : Option Addr) (f : Nat) (w : World) (hV : LtV w x A L R) (hsz : cntLt x ≤ 30000) :
    Calls Tryz.prog 29 #[ltV x A c L d R f] w (OwnT w 41 (termsLt x)) := by
  refine (callsIn_wide (n := 9)).1 ?_
  obtain ⟨i0, hi0, hz0, hzs, hzb⟩ := info_parts infoTm
  have hf32 : Fence.wide.fn 29 := trivial
  have hf31 : Fence.wide.fn 28 := trivial
  have hf9 : Fence.wide.fn 53 := trivial
  have hf38 : Fence.wide.fn 81 := trivial
  have hH0 := lt_box w x A c L d R f
  have HV := Lib.hid hV
  have hal : x.atom.args.length ≤ 30000 := by unfold cntLt at hsz; omega
  have hcl : cntE x.left ≤ 30000 := by unfold cntLt at hsz; omega
  have hcr : cntE x.right ≤ 30000 := by unfold cntLt at hsz; omega
  have C1 := Lib.hid (Clone_any A c x.atom.args _ _ (hV.below hH0.low).am.row (by omega) (Below.refl _ _))
  have H0 := Lib.hid hH0
  clear hV hH0
  unfold ltV
  refine callsIn_of_wp_marks Tryz.func29 rfl hf32 ?_ rfl
  simp only [Tryz.ntmps29, List.size_toArray, List.length_cons, List.length_nil, Nat.reduceAdd, Nat.reduceSub, Array.replicate_succ, Array.replicate_zero, List.push_toArray, List.append_toArray, List.nil_append, List.cons_append]
  gi_wp2_with fail
  refine (callsIn_wide.2 C1.out).mono ?_
  rintro e w1 ⟨A1, c1, rfl, ho1, hn1, hb1⟩
  obtain ⟨G1, hM1, hG1⟩ := MArr.of_own ho1
  have hb2 : Below w1.heap.size w1 (w1.alloc (.cells #[.slice A1 x.atom.args.length c1] 42)) := (Below.refl _ _).alloc (Nat.le_refl _) _
  have hI2 : TsI w w1.heap.size x.atom.args [] (w1.alloc (.cells #[.slice A1 x.atom.args.length c1] 42)) :=
    ⟨⟨_, G1, heap_alloc_new _ _, hM1.calm (Calm.of_below 0 hb2), fun g hg => ⟨fun e => by have := (hG1 g hg).2; omega, by have := (hG1 g hg).1; simp at this; omega⟩⟩, (fun _ h => by cases h), (H0.out.below hb1).low.trans (hb2.mono (H0.out.below hb1).low.size), (H0.out.below hb1).low.size⟩
  have H1 := Lib.hid (H0.out.below hb1)
  have HM1 := Lib.hid hM1
  have HG1 := Lib.hid hG1
  clear ho1 hn1 hb1 hM1 hG1
  have c4 := H1.out.own.cell 4
  have c5 := H1.out.own.cell 5
  have c6 := H1.out.own.cell 6
  have c7 := H1.out.own.cell 7
  have c8 := H1.out.own.cell 8
  have c9 := H1.out.own.cell 9
  have c10 := H1.out.own.cell 10
  have c11 := H1.out.own.cell 11
  have c12 := H1.out.own.cell 12
  have c13 := H1.out.own.cell 13
  have c14 := H1.out.own.cell 14
  have c15 := H1.out.own.cell 15
  have hq1 := H1.out.own.lt
  simp only [List.getElem?_cons_zero, List.getElem?_cons_succ] at c4 c5 c6 c7 c8 c9 c10 c11 c12 c13 c14 c15
  have ki0 : ∀ W, (Instr.index 111 (.agg #[.int .i64 x.left.op, .string x.left.t.v, .int .i64 x.left.t.k, .int .i64 x.left.t.n, .string x.left.t.s, .slice L x.left.kids.length d, .int .i64 x.right.op, .string x.right.t.v, .int .i64 x.right.t.k, .int .i64 x.right.t.n, .string x.right.t.s, .slice R x.right.kids.length f]) (.int .i64 0)).run Tryz.prog W = .ok (.agg #[.int .i64 x.left.op, .string x.left.t.v, .int .i64 x.left.t.k, .int .i64 x.left.t.n, .string x.left.t.s, .slice L x.left.kids.length d]) W := fun W => by kernel_rfl
  have ki1 : ∀ W, (Instr.index 111 (.agg #[.int .i64 x.left.op, .string x.left.t.v, .int .i64 x.left.t.k, .int .i64 x.left.t.n, .string x.left.t.s, .slice L x.left.kids.length d, .int .i64 x.right.op, .string x.right.t.v, .int .i64 x.right.t.k, .int .i64 x.right.t.n, .string x.right.t.s, .slice R x.right.kids.length f]) (.int .i64 1)).run Tryz.prog W = .ok (.agg #[.int .i64 x.right.op, .string x.right.t.v, .int .i64 x.right.t.k, .int .i64 x.right.t.n, .string x.right.t.s, .slice R x.right.kids.length f]) W := fun W => by kernel_rfl
  gi_wp2_with fail
  obtain ⟨w2, hW2⟩ : ∃ w2, w2 = w1.alloc (.cells #[.slice A1 x.atom.args.length c1] 42) := ⟨_, rfl⟩
  rw [← hW2] at hI2 ⊢
  obtain ⟨b3, hb3⟩ : ∃ b3, b3 = w1.heap.size := ⟨_, rfl⟩
  have hI2 : TsI w b3 x.atom.args [] w2 := by rw [hb3]; exact hI2
  have HI2 := Lib.hid hI2
  generalize hVa : Value.agg #[.int .i64 x.left.op, .string x.left.t.v, .int .i64 x.left.t.k, .int .i64 x.left.t.n, .string x.left.t.s, .slice L x.left.kids.length d, .int .i64 x.right.op, .string x.right.t.v, .int .i64 x.right.t.k, .int .i64 x.right.t.n, .string x.right.t.s, .slice R x.right.kids.length f] = Va at ki0 ki1 ⊢
  generalize Value.agg #[.int .i64 x.kind, .string x.atom.rel, .slice A x.atom.args.length c, .int .i64 x.op, .int .i64 x.left.op, .string x.left.t.v, .int .i64 x.left.t.k, .int .i64 x.left.t.n, .string x.left.t.s, .slice L x.left.kids.length d, .int .i64 x.right.op, .string x.right.t.v, .int .i64 x.right.t.k, .int .i64 x.right.t.n, .string x.right.t.s, .slice R x.right.kids.length f, .int .i64 x.pos] = V0
  clear hVa hI2 hb2 c4 c5 c6 c7 c8 c9 c10 c11 c12 c13 c14 c15 hq1
  rw [← hb3]
  clear hW2 hb3
  refine wpIn_loop_rounds 3 ?_
  rw [roundsIn_succ]
  gi_wp2_with fail
  have hb50 : Below w2.heap.size w2 (w2.alloc (.cells #[.int .i64 x.left.op, .string x.left.t.v, .int .i64 x.left.t.k, .int .i64 x.left.t.n, .string x.left.t.s, .slice L x.left.kids.length d] 48)) := (Below.refl _ _).alloc (Nat.le_refl _) _
  have hI50 := HI2.out.below hb50
  obtain ⟨W50, hW50⟩ : ∃ W5, W5 = w2.alloc (.cells #[.int .i64 x.left.op, .string x.left.t.v, .int .i64 x.left.t.k, .int .i64 x.left.t.n, .string x.left.t.s, .slice L x.left.kids.length d] 48) := ⟨_, rfl⟩
  rw [← hW50] at hI50 ⊢
  obtain ⟨b50, hb5e0⟩ : ∃ b5, b5 = w2.heap.size := ⟨_, rfl⟩
  rw [← hb5e0]
  clear hb50 hW50 hb5e0
  have CT0 := Lib.hid (Terms_any x.left L d W50 (HV.out.left.below hI50.low) (by omega))
  have HF0 := Lib.hid hI50.foot_lt
  have HI50 := Lib.hid hI50
  have hb30 := hI50.b3lt
  clear hI50
  refine (callsIn_wide.2 CT0.out).mono ?_
  rintro e w90 ⟨bs0, T0, tc0, rfl, hbs10, hbs20, hrow0, hT0, hb90⟩
  have HI90 := Lib.hid (HI50.out.below hb90)
  have HB90 := Lib.hid hb90
  have HBs0 := Lib.hid hbs20
  have HRow0 := Lib.hid hrow0
  have HT0 := Lib.hid hT0
  have HLn0 := Lib.hid (terms_len x.left)
  have hs90 := hb90.size
  have hl90 : w.heap.size ≤ w90.heap.size := HI90.out.low.size
  clear hbs20 hrow0 hT0 hb90 CT0
  gi_wp2_with fail
  generalize Value.agg #[.int .i64 x.left.op, .string x.left.t.v, .int .i64 x.left.t.k, .int .i64 x.left.t.n, .string x.left.t.s, .slice L x.left.kids.length d] = VL
  have hL0 : (x.atom.args).length ≤ 60000 := by omega
  generalize hTL0 : termsE x.left = TL0 at HBs0 HRow0 HT0 HLn0
  have HTL0 := Lib.hid hTL0
  clear hTL0
  refine' range_law2 (Kp := Kf [] b3 0) (Px := fun pre y _ => (pre ++ [y]) <+: TL0) (S := fun xs => xs = TL0) (Sp := fun pre => pre <+: TL0) (encs := fun y : TTm => #[tmV y]) rfl (by omega) (gf := 81) (lb := #[.pointer (some ⟨bs0, 0, none⟩)]) rfl hf38 (enters_of Tryz.func81 (by kernel_rfl) rfl)
    ?seq0 (fun h h' => h.trans h') (fun X Y hX hc => Kf.of_calm hc (by omega) (by omega)) (fun _ => rfl)
    (fun pre W => TsI w b3 (x.atom.args ++ pre) [] W) (fun _ _ _ => False) (fun pre X Y h hc => h.calm hc hl90 (fun D hD => by have := (Array.getElem?_eq_some_iff.1 (HI90.out.ds D hD)).1; exact this)) (fun _ _ _ _ h _ => h.elim)
    (fun _ _ _ _ h _ => h) (by rw [List.append_nil]; exact HI90.out) (fun y a W => ∃ Bx, w90.heap.size ≤ Bx ∧ Own W Bx 41 (tmC y) ∧ a = { tmps := #[V0, .pointer (some ⟨w.heap.size, 0, none⟩), .slice none 0 0, .pointer (some ⟨b3, 0, none⟩), undef, .pointer (some ⟨b50, 0, none⟩), .pointer (some ⟨Bx, 0, none⟩), .pointer (some ⟨w.heap.size, 1, none⟩), .pointer (some ⟨w.heap.size, 2, none⟩), .slice A x.atom.args.length c, .slice A1 x.atom.args.length c1, .pointer (some ⟨w.heap.size, 4, none⟩), VL, .pointer (some ⟨w.heap.size, 10, none⟩), .agg #[.int .i64 x.right.op, .string x.right.t.v, .int .i64 x.right.t.k, .int .i64 x.right.t.n, .string x.right.t.s, .slice R x.right.kids.length f], Va, .int .i64 0, .bool true, VL, VL, .func (.func 81) #[] #[.pointer (some ⟨bs0, 0, none⟩)], tmV y, undef, undef, undef, undef, undef, undef], defers := [] }) (fun y a X Y h hc => ?ax0) ?assign0 ?body0 ?done0 ?stop0
  case ax0 =>
    obtain ⟨Bx, h1, h2, h3⟩ := h
    exact ⟨Bx, h1, hc.own h2, h3⟩
  case stop0 =>
    rintro D cd pre W hD hpre hf hK
    exact hf.elim
  case assign0 =>
    intro l y W K hW hK
    gi_wp2
    exact hK _ _ ((Below.refl _ _).alloc (Nat.le_refl _) _) ⟨W.heap.size, hW, heap_alloc_new _ _, rfl⟩
  case seq0 =>
    intro l J Jx W hW hJ hJx hY h0
    have hbW : Below W50.heap.size W50 W := HB90.out.trans (hW.mono hs90)
    have hc0 := hbW.cell (p := ⟨b3, 0, none⟩) hb30
    exact vals_in 8 (by omega) l [] b3 0 bs0 TL0 T0 tc0 J Jx W ((hW.cell (p := ⟨bs0, 0, none⟩) (World.block_lt_of_cell? _ _ HBs0.out)).trans HBs0.out) (HRow0.out.tm (Pers.of hW)) (Nat.lt_of_lt_of_le hb30 hbW.size) (fun k hk => by
      rw [foot_same hc0] at hk
      have h1 := HF0.out k hk
      refine ⟨Nat.lt_of_lt_of_le h1 hbW.size, by omega, fun a ha => ?_⟩
      have := HT0.out a ha
      omega) hJ hJx hY h0
  case body0 =>
    rintro l pre y a W hI hpre ⟨Bx, hBx, hOx, rfl⟩
    obtain ⟨v, G, hO, ha, hG⟩ := hI.o3
    obtain ⟨A0, c0, rfl, _⟩ := ha.val
    have hpl : pre.length + 1 ≤ 30000 := by
      have h1 := hpre.length_le
      have h2 := HLn0.out
      rw [List.length_append, List.length_singleton] at h1
      omega
    have HI := Lib.hid hI
    have HO := Lib.hid hO
    have HA := Lib.hid ha
    have HGt := Lib.hid hG
    have c5 := hO.cell 0
    have q5 := hO.lt
    have x0 := hOx.cell 0
    have x1 := hOx.cell 1
    have x2 := hOx.cell 2
    have x3 := hOx.cell 3
    have xq := hOx.lt
    have HOw := Lib.hid ((ha.kept ((Kept.refl [] W).alloc (.cells #[.string y.v, .int .i64 y.k, .int .i64 y.n, .string y.s] 41)) (fun _ _ h => by cases h)).owns)
    have HNw : Hid (∀ j u, (tmC y)[j]? = some u → (W.alloc (.cells #[.string y.v, .int .i64 y.k, .int .i64 y.n, .string y.s] 41)).cell? ((⟨W.heap.size, 0, none⟩ : Addr).add j) = some u) := fun j u hj => by
      have hv : Own (W.alloc (.cells #[.string y.v, .int .i64 y.k, .int .i64 y.n, .string y.s] 41)) W.heap.size 41 (tmC y) := heap_alloc_new W _
      rw [Addr.add_lit, Nat.zero_add, hv.cell]
      exact hj
    have hll : (x.atom.args ++ pre).length + 1 ≤ 90000 := by rw [List.length_append]; omega
    have hb1 : (x.atom.args ++ pre).length + 1 ≤ maxLen := by unfold maxLen; omega
    have hb2 : ((x.atom.args ++ pre).length + 1) * 48 ≤ 140737488355328 := by omega
    have hone : ∀ u ∈ tmC y, u.oneCell' = true := by simp [Value.oneCell']
    have HAs : Hid ((x.atom.args ++ pre) ++ [y] = x.atom.args ++ (pre ++ [y])) := List.append_assoc _ _ _
    clear hpre hI hO ha hG hOx hpl
    generalize x.atom.args ++ pre = LP at *
    gi_wp2_with (gi_at_builtin; refine wpListIn_append_own_at _ rfl _ _ 42 rfl 0 41 i0 _ 4 48 Tryz.underlying42 hi0 hz0 hzs hzb rfl (by decide) (.slice A0 LP.length c0) LP.length (flatM LP) rfl HOw.out ⟨W.heap.size, 0, none⟩ 1 1 (tmC y) rfl rfl HNw.out hone hb1 hb2 (Nat.zero_le _) ?_; intro v' w1 ho hg _ hat; obtain ⟨g1, cap1, rfl⟩ := owns_val4 ho; obtain ⟨k1, hst⟩ := HI.out.step (B0 := w90.heap.size) HO.out HA.out HGt.out ho hg hat; have HST := Lib.hid hst; have h1 := k1.cell 0; have f1 := k1.frozen 0; have q3 := k1.lt; clear ho hg hat k1 hst)
    exact ⟨HST.out.1, HST.out.2.1, by have h := HST.out.2.2; rw [HAs.out] at h; exact h⟩
  case done0 =>
    rintro D0 ys W80 hD0 hys hI hK
    rw [hys] at hI
    have HI80 := Lib.hid (hI.mark hK)
    clear hI hK hys
    gi_wp2_with fail
    rw [roundsIn_succ]
    gi_wp2_with fail
    have hb51 : Below W80.heap.size W80 (W80.alloc (.cells #[.int .i64 x.right.op, .string x.right.t.v, .int .i64 x.right.t.k, .int .i64 x.right.t.n, .string x.right.t.s, .slice R x.right.kids.length f] 48)) := (Below.refl _ _).alloc (Nat.le_refl _) _
    have hI51 := HI80.out.below hb51
    obtain ⟨W51, hW51⟩ : ∃ W5, W5 = W80.alloc (.cells #[.int .i64 x.right.op, .string x.right.t.v, .int .i64 x.right.t.k, .int .i64 x.right.t.n, .string x.right.t.s, .slice R x.right.kids.length f] 48) := ⟨_, rfl⟩
    rw [← hW51] at hI51 ⊢
    obtain ⟨b51, hb5e1⟩ : ∃ b5, b5 = W80.heap.size := ⟨_, rfl⟩
    rw [← hb5e1]
    clear hb51 hW51 hb5e1
    have CT1 := Lib.hid (Terms_any x.right R f W51 (HV.out.right.below hI51.low) (by omega))
    have HF1 := Lib.hid hI51.foot_lt
    have HI51 := Lib.hid hI51
    have hb31 := hI51.b3lt
    clear hI51
    refine (callsIn_wide.2 CT1.out).mono ?_
    rintro e w91 ⟨bs1, T1, tc1, rfl, hbs11, hbs21, hrow1, hT1, hb91⟩
    have HI91 := Lib.hid (HI51.out.below hb91)
    have HB91 := Lib.hid hb91
    have HBs1 := Lib.hid hbs21
    have HRow1 := Lib.hid hrow1
    have HT1 := Lib.hid hT1
    have HLn1 := Lib.hid (terms_len x.right)
    have hs91 := hb91.size
    have hl91 : w.heap.size ≤ w91.heap.size := HI91.out.low.size
    clear hbs21 hrow1 hT1 hb91 CT1
    gi_wp2_with fail
    generalize Value.agg #[.int .i64 x.right.op, .string x.right.t.v, .int .i64 x.right.t.k, .int .i64 x.right.t.n, .string x.right.t.s, .slice R x.right.kids.length f] = VR
    have hL1 : ((x.atom.args ++ TL0)).length ≤ 60000 := by rw [List.length_append]; have := HLn0.out; omega
    generalize hTL1 : termsE x.right = TL1 at HBs1 HRow1 HT1 HLn1
    have HTL1 := Lib.hid hTL1
    clear hTL1
    refine' range_law2 (Kp := Kf [] b3 0) (Px := fun pre y _ => (pre ++ [y]) <+: TL1) (S := fun xs => xs = TL1) (Sp := fun pre => pre <+: TL1) (encs := fun y : TTm => #[tmV y]) rfl (by omega) (gf := 81) (lb := #[.pointer (some ⟨bs1, 0, none⟩)]) rfl hf38 (enters_of Tryz.func81 (by kernel_rfl) rfl)
      ?seq1 (fun h h' => h.trans h') (fun X Y hX hc => Kf.of_calm hc (by omega) (by omega)) (fun _ => rfl)
      (fun pre W => TsI w b3 ((x.atom.args ++ TL0) ++ pre) [D0] W) (fun _ _ _ => False) (fun pre X Y h hc => h.calm hc hl91 (fun D hD => by have := (Array.getElem?_eq_some_iff.1 (HI91.out.ds D hD)).1; exact this)) (fun _ _ _ _ h _ => h.elim)
      (fun _ _ _ _ h _ => h) (by rw [List.append_nil]; exact HI91.out) (fun y a W => ∃ Bx, w91.heap.size ≤ Bx ∧ Own W Bx 41 (tmC y) ∧ a = { tmps := #[V0, .pointer (some ⟨w.heap.size, 0, none⟩), .slice none 0 0, .pointer (some ⟨b3, 0, none⟩), undef, .pointer (some ⟨b51, 0, none⟩), .pointer (some ⟨Bx, 0, none⟩), .pointer (some ⟨w.heap.size, 1, none⟩), .pointer (some ⟨w.heap.size, 2, none⟩), .slice A x.atom.args.length c, .slice A1 x.atom.args.length c1, .pointer (some ⟨w.heap.size, 4, none⟩), VL, .pointer (some ⟨w.heap.size, 10, none⟩), VR, Va, .int .i64 1, .bool true, VR, VR, .func (.func 81) #[] #[.pointer (some ⟨bs1, 0, none⟩)], tmV y, undef, undef, undef, undef, .int .i64 1, undef], defers := [] }) (fun y a X Y h hc => ?ax1) ?assign1 ?body1 ?done1 ?stop1
    case ax1 =>
      obtain ⟨Bx, h1, h2, h3⟩ := h
      exact ⟨Bx, h1, hc.own h2, h3⟩
    case stop1 =>
      rintro D cd pre W hD hpre hf hK
      exact hf.elim
    case assign1 =>
      intro l y W K hW hK
      gi_wp2
      exact hK _ _ ((Below.refl _ _).alloc (Nat.le_refl _) _) ⟨W.heap.size, hW, heap_alloc_new _ _, rfl⟩
    case seq1 =>
      intro l J Jx W hW hJ hJx hY h0
      have hbW : Below W51.heap.size W51 W := HB91.out.trans (hW.mono hs91)
      have hc0 := hbW.cell (p := ⟨b3, 0, none⟩) hb31
      exact vals_in 8 (by omega) l [] b3 0 bs1 TL1 T1 tc1 J Jx W ((hW.cell (p := ⟨bs1, 0, none⟩) (World.block_lt_of_cell? _ _ HBs1.out)).trans HBs1.out) (HRow1.out.tm (Pers.of hW)) (Nat.lt_of_lt_of_le hb31 hbW.size) (fun k hk => by
        rw [foot_same hc0] at hk
        have h1 := HF1.out k hk
        refine ⟨Nat.lt_of_lt_of_le h1 hbW.size, by omega, fun a ha => ?_⟩
        have := HT1.out a ha
        omega) hJ hJx hY h0
    case body1 =>
      rintro l pre y a W hI hpre ⟨Bx, hBx, hOx, rfl⟩
      obtain ⟨v, G, hO, ha, hG⟩ := hI.o3
      obtain ⟨A0, c0, rfl, _⟩ := ha.val
      have hpl : pre.length + 1 ≤ 30000 := by
        have h1 := hpre.length_le
        have h2 := HLn1.out
        rw [List.length_append, List.length_singleton] at h1
        omega
      have HI := Lib.hid hI
      have HO := Lib.hid hO
      have HA := Lib.hid ha
      have HGt := Lib.hid hG
      have c5 := hO.cell 0
      have q5 := hO.lt
      have x0 := hOx.cell 0
      have x1 := hOx.cell 1
      have x2 := hOx.cell 2
      have x3 := hOx.cell 3
      have xq := hOx.lt
      have HOw := Lib.hid ((ha.kept ((Kept.refl [] W).alloc (.cells #[.string y.v, .int .i64 y.k, .int .i64 y.n, .string y.s] 41)) (fun _ _ h => by cases h)).owns)
      have HNw : Hid (∀ j u, (tmC y)[j]? = some u → (W.alloc (.cells #[.string y.v, .int .i64 y.k, .int .i64 y.n, .string y.s] 41)).cell? ((⟨W.heap.size, 0, none⟩ : Addr).add j) = some u) := fun j u hj => by
        have hv : Own (W.alloc (.cells #[.string y.v, .int .i64 y.k, .int .i64 y.n, .string y.s] 41)) W.heap.size 41 (tmC y) := heap_alloc_new W _
        rw [Addr.add_lit, Nat.zero_add, hv.cell]
        exact hj
      have hll : ((x.atom.args ++ TL0) ++ pre).length + 1 ≤ 90000 := by rw [List.length_append]; omega
      have hb1 : ((x.atom.args ++ TL0) ++ pre).length + 1 ≤ maxLen := by unfold maxLen; omega
      have hb2 : (((x.atom.args ++ TL0) ++ pre).length + 1) * 48 ≤ 140737488355328 := by omega
      have hone : ∀ u ∈ tmC y, u.oneCell' = true := by simp [Value.oneCell']
      have HAs : Hid (((x.atom.args ++ TL0) ++ pre) ++ [y] = (x.atom.args ++ TL0) ++ (pre ++ [y])) := List.append_assoc _ _ _
      clear hpre hI hO ha hG hOx hpl
      generalize (x.atom.args ++ TL0) ++ pre = LP at *
      gi_wp2_with (gi_at_builtin; refine wpListIn_append_own_at _ rfl _ _ 42 rfl 0 41 i0 _ 4 48 Tryz.underlying42 hi0 hz0 hzs hzb rfl (by decide) (.slice A0 LP.length c0) LP.length (flatM LP) rfl HOw.out ⟨W.heap.size, 0, none⟩ 1 1 (tmC y) rfl rfl HNw.out hone hb1 hb2 (Nat.zero_le _) ?_; intro v' w1 ho hg _ hat; obtain ⟨g1, cap1, rfl⟩ := owns_val4 ho; obtain ⟨k1, hst⟩ := HI.out.step (B0 := w91.heap.size) HO.out HA.out HGt.out ho hg hat; have HST := Lib.hid hst; have h1 := k1.cell 0; have f1 := k1.frozen 0; have q3 := k1.lt; clear ho hg hat k1 hst)
      exact ⟨HST.out.1, HST.out.2.1, by have h := HST.out.2.2; rw [HAs.out] at h; exact h⟩
    case done1 =>
      rintro D1 ys W81 hD1 hys hI hK
      rw [hys] at hI
      have HI81 := Lib.hid (hI.mark hK)
      clear hI hK hys
      gi_wp2_with fail
      rw [roundsIn_succ]
      have HIx := HI81
      obtain ⟨v, G, hO, ha, hG⟩ := HI81.out.o3
      obtain ⟨A0, c0, rfl, hn0⟩ := ha.val
      have HN0 := Lib.hid hn0
      have c5 := hO.cell 0
      have HA := Lib.hid ha
      have HGt := Lib.hid hG
      have HE : Hid ((x.atom.args ++ TL0) ++ TL1 = termsLt x) := by
        show _ = _
        rw [← HTL0.out, ← HTL1.out, List.append_assoc]
        rfl
      clear hO ha hG hn0
      gi_wp2_with fail
      have hd1 := HI81.out.ds D1 (by simp)
      have hd0 := HI81.out.ds D0 (by simp)
      have hlt0 : D0 < w91.heap.size := (Array.getElem?_eq_some_iff.1 (HI91.out.ds D0 (by simp))).1
      have hcm1 : Calm w.heap.size W81 (W81.putObj D1 (.deferred none)) := Calm.put _ hd1 rfl (by omega)
      have hd0' : (W81.putObj D1 (.deferred none)).heap[D0]? = some (.deferred (some [])) := (World.putObj_heap_other (by omega)).trans hd0
      have hcm0 : Calm w.heap.size (W81.putObj D1 (.deferred none)) ((W81.putObj D1 (.deferred none)).putObj D0 (.deferred none)) := Calm.put _ hd0' rfl (by omega)
      have hcm := hcm1.trans hcm0
      refine ⟨by simp, .inl ⟨_, _, rfl, run_takeDeferred hd1, ?_⟩⟩
      refine ⟨by simp, .inl ⟨_, _, rfl, run_takeDeferred hd0', ?_⟩⟩
      rw [← HE.out]
      exact ⟨.slice A0 ((x.atom.args ++ TL0) ++ TL1).length c0, (by simp [results, Tryz.results29, go_sem]), A0, c0, rfl, (HA.out.calm hcm).owns_at (fun g hg => (HGt.out g hg).2), HN0.out, Below.calm HI81.out.low hcm (Nat.le_refl _) (Nat.le_refl _)⟩
end Go.Proofs.YtlfakhjcpdkaiaaGreatDoor

set_option linter.unusedVariables false
set_option linter.unusedSimpArgs false
namespace Go.Proofs.YtlfakhjcpdkaiaaGreatDoor
open Go.RowKit Go.Deep Go.Shelf

theorem Rg.oks {w : World} {A : Option Addr} {l : List TTm} (h : Rg 4 TmC w A l) : ∀ t ∈ l, okTm t := by
  intro t ht
  obtain ⟨i, hi, rfl⟩ := List.getElem_of_mem ht
  obtain ⟨b, o, _, _, hc⟩ := h.at_ hi
  exact hc.2.2.2.2
theorem LtV.oks {w : World} {x : TLt} {A L R : Option Addr} (h : LtV w x A L R) : ∀ t ∈ termsLt x, okTm t := by
  intro t ht
  unfold termsLt at ht
  rcases List.mem_append.1 ht with ht | ht
  · exact h.am.row.oks t ht
  · rcases List.mem_append.1 ht with ht | ht
    · exact okE_terms _ h.left.okE t ht
    · exact okE_terms _ h.right.okE t ht
theorem OwnS.lower {w w1 : World} {L : List ByteArray} {e : Ending} {w' : World} (h : OwnS w1 L e w') (hb : Below w.heap.size w w1) : OwnS w L e w' := by
  obtain ⟨A, c, h1, h2, h3, h4⟩ := h
  exact ⟨A, c, h1, own_lower h2 hb.size, h3, hb.trans (h4.mono hb.size)⟩
set_option maxRecDepth 100000 in
set_option maxHeartbeats 2000000 in
theorem Vars_any (r : TRu) (A : Option Addr) (c : Nat) (B : Option Addr) (d : Nat) (w : World) (hV : RuV w r A B) (hsz : cntRu r ≤ 30000) :
    Calls Tryz.prog 13 #[ruV r A c B d] w (OwnS w (names [] (termsRu r))) := by
  have hO : Own (w.alloc (.cells #[.string r.head.rel, .slice A r.head.args.length c, .int .i64 r.agg, .int .i64 r.col, .slice B r.body.length d, .int .i64 r.pos] 54)) w.heap.size 54
    [.string r.head.rel, .slice A r.head.args.length c, .int .i64 r.agg, .int .i64 r.col, .slice B r.body.length d, .int .i64 r.pos] := heap_alloc_new _ _
  have hb0 : Below w.heap.size w (w.alloc (.cells #[.string r.head.rel, .slice A r.head.args.length c, .int .i64 r.agg, .int .i64 r.col, .slice B r.body.length d, .int .i64 r.pos] 54)) := (Below.refl _ _).alloc (Nat.le_refl _) _
  have hal : r.head.args.length ≤ 30000 := by unfold cntRu at hsz; omega
  have C1 := Lib.hid (Clone_any A c r.head.args _ _ (hV.below hb0).am.row (by omega) (Below.refl _ _))
  have hlen := hV.row.1
  have HX : Hid (∀ j (h : j < r.body.length), LtX w B j fun V => (∀ W, Below w.heap.size w W → Calls Tryz.prog 29 #[V] W (OwnT W 41 (termsLt r.body[j]))) ∧ ∀ t ∈ termsLt r.body[j], okTm t) := fun j h =>
    lt_x hV.row h fun AA ac L d R f hy => ⟨fun W hb => ltTerms_any _ AA ac L d R f W (hy.below hb) (by have := cntB_mem (List.getElem_mem h); unfold cntRu at hsz; omega), hy.oks⟩
  have HOk0 := Lib.hid hV.am.row.oks
  have HOkB : Hid (∀ t ∈ termsRu r, okTm t) := fun t ht => by
    unfold termsRu at ht
    rcases List.mem_append.1 ht with ht | ht
    · exact hV.am.row.oks t ht
    · unfold termsB at ht
      obtain ⟨x, hx, ht⟩ := List.mem_flatMap.1 ht
      obtain ⟨i, hi, rfl⟩ := List.getElem_of_mem hx
      obtain ⟨b, o, _, _, hc⟩ := hV.row.at_ hi
      obtain ⟨_, _, _, _, _, _, _, hy⟩ := hc.open_
      exact hy.oks t ht
  have HLn := Lib.hid (Nat.le_trans (termsRu_len r) hsz)
  have HLB : Hid (∀ j, (termsB (r.body.take j)).length ≤ (termsB r.body).length) := fun j => by
    have h : termsB r.body = termsB (r.body.take j) ++ termsB (r.body.drop j) := by unfold termsB; rw [← List.flatMap_append, List.take_append_drop]
    rw [h, List.length_append]
    omega
  have hLt : (r.head.args ++ termsB r.body).length ≤ 30000 := HLn.out
  rw [List.length_append] at hLt
  have HB0 := Lib.hid hb0
  have HO := Lib.hid hO
  unfold ruV
  clear hV hb0 hO hsz
  go_enter Tryz.func13, Tryz.ntmps13
  go_wp2_with fail
  refine C1.out.mono ?_
  rintro e w1 ⟨T, tc, rfl, ho, hn, hb⟩
  have HB1 : Hid (Below w.heap.size w w1) := HB0.out.trans (hb.mono HB0.out.size)
  have HT1 : Hid (w1.ownsRow w.heap.size 41 4 (.slice T r.head.args.length tc) r.head.args.length (flatM r.head.args)) := own_lower ho HB0.out.size
  have HN1 := Lib.hid hn
  have c4 := (HO.out.below hb).cell 4
  have q1 := (HO.out.below hb).lt
  simp only [List.getElem?_cons_zero, List.getElem?_cons_succ] at c4
  clear ho hn hb
  go_wp2_with fail
  clear c4 q1
  go_loopw [3, 13] (fun v i wr => ∃ (j : Nat) (Aj : Option Addr) (cj : Nat), j ≤ r.body.length ∧ i = .int .i64 j ∧ v = .slice Aj (r.head.args ++ termsB (r.body.take j)).length cj ∧ Hid (wr.ownsRow w.heap.size 41 4 (.slice Aj (r.head.args ++ termsB (r.body.take j)).length cj) (r.head.args ++ termsB (r.body.take j)).length (flatM (r.head.args ++ termsB (r.body.take j)))) ∧
    Hid (Aj = none → cj = 0) ∧ Hid (Below w.heap.size w wr)) (fun _ i _ => r.body.length - (intOf i).toNat)
  case atStart =>
    refine ⟨0, T, tc, Nat.zero_le _, rfl, ?_, ?_, HN1, HB1⟩
    · simp [termsB]
    · have e0 : r.head.args ++ termsB (r.body.take 0) = r.head.args := by simp [termsB]
      rw [e0]
      exact HT1
  case round =>
    obtain ⟨j, Aj, cj, hj, rfl, rfl, HOj, HNj, HB⟩ := hrel
    by_cases hlt : j < r.body.length
    · obtain ⟨b, o, k0, k3, k4, k6, k7, k10, k12, k13, k16, s1, s5, s8, s11, s14, A2, A9, A15, n2, m2, n9, m9, n15, m15, rfl, hbw, ⟨c0, c1, c2, c3, c4, c5, c6, c7, c8, c9, c10, c11, c12, c13, c14, c15, c16⟩, hcall⟩ := HX.out j hlt
      obtain ⟨hcall, hoks⟩ := hcall
      have c0 := (HB.out.cell (p := ⟨b, o + j * 17, none⟩) hbw).trans c0
      have c1 := (HB.out.cell (p := ⟨b, o + j * 17 + 1, none⟩) hbw).trans c1
      have c2 := (HB.out.cell (p := ⟨b, o + j * 17 + 2, none⟩) hbw).trans c2
      have c3 := (HB.out.cell (p := ⟨b, o + j * 17 + 3, none⟩) hbw).trans c3
      have c4 := (HB.out.cell (p := ⟨b, o + j * 17 + 4, none⟩) hbw).trans c4
      have c5 := (HB.out.cell (p := ⟨b, o + j * 17 + 5, none⟩) hbw).trans c5
      have c6 := (HB.out.cell (p := ⟨b, o + j * 17 + 6, none⟩) hbw).trans c6
      have c7 := (HB.out.cell (p := ⟨b, o + j * 17 + 7, none⟩) hbw).trans c7
      have c8 := (HB.out.cell (p := ⟨b, o + j * 17 + 8, none⟩) hbw).trans c8
      have c9 := (HB.out.cell (p := ⟨b, o + j * 17 + 9, none⟩) hbw).trans c9
      have c10 := (HB.out.cell (p := ⟨b, o + j * 17 + 10, none⟩) hbw).trans c10
      have c11 := (HB.out.cell (p := ⟨b, o + j * 17 + 11, none⟩) hbw).trans c11
      have c12 := (HB.out.cell (p := ⟨b, o + j * 17 + 12, none⟩) hbw).trans c12
      have c13 := (HB.out.cell (p := ⟨b, o + j * 17 + 13, none⟩) hbw).trans c13
      have c14 := (HB.out.cell (p := ⟨b, o + j * 17 + 14, none⟩) hbw).trans c14
      have c15 := (HB.out.cell (p := ⟨b, o + j * 17 + 15, none⟩) hbw).trans c15
      have c16 := (HB.out.cell (p := ⟨b, o + j * 17 + 16, none⟩) hbw).trans c16
      have HCS : Hid (∀ (i : Nat) v, [.int .i64 k0, .string s1, .slice A2 n2 m2, .int .i64 k3, .int .i64 k4, .string s5, .int .i64 k6, .int .i64 k7, .string s8, .slice A9 n9 m9, .int .i64 k10, .string s11, .int .i64 k12, .int .i64 k13, .string s14, .slice A15 n15 m15, .int .i64 k16][i]? = some v → wr.cell? ⟨b, o + j * 17 + i, none⟩ = some v) := fun i v hv => by
        match i, hv with
        | 0, hv => cases hv; exact c0
        | 1, hv => cases hv; exact c1
        | 2, hv => cases hv; exact c2
        | 3, hv => cases hv; exact c3
        | 4, hv => cases hv; exact c4
        | 5, hv => cases hv; exact c5
        | 6, hv => cases hv; exact c6
        | 7, hv => cases hv; exact c7
        | 8, hv => cases hv; exact c8
        | 9, hv => cases hv; exact c9
        | 10, hv => cases hv; exact c10
        | 11, hv => cases hv; exact c11
        | 12, hv => cases hv; exact c12
        | 13, hv => cases hv; exact c13
        | 14, hv => cases hv; exact c14
        | 15, hv => cases hv; exact c15
        | 16, hv => cases hv; exact c16
        | n + 17, hv => simp at hv
      have HON : Hid ((#[.int .i64 k0, .string s1, .slice A2 n2 m2, .int .i64 k3, .int .i64 k4, .string s5, .int .i64 k6, .int .i64 k7, .string s8, .slice A9 n9 m9, .int .i64 k10, .string s11, .int .i64 k12, .int .i64 k13, .string s14, .slice A15 n15 m15, .int .i64 k16] : Array Value).all (·.oneCell') = true) := by show _ = _; simp [Value.oneCell']
      clear c0 c1 c2 c3 c4 c5 c6 c7 c8 c9 c10 c11 c12 c13 c14 c15 c16
      have hbx : Below w.heap.size w (wr.alloc (.cells #[.int .i64 k0, .string s1, .slice A2 n2 m2, .int .i64 k3, .int .i64 k4, .string s5, .int .i64 k6, .int .i64 k7, .string s8, .slice A9 n9 m9, .int .i64 k10, .string s11, .int .i64 k12, .int .i64 k13, .string s14, .slice A15 n15 m15, .int .i64 k16] 50)) := HB.out.alloc HB.out.size _
      have C := Lib.hid (hcall _ hbx)
      have HBX := Lib.hid hbx
      have HOks := Lib.hid hoks
      have HE : Hid ((r.head.args ++ termsB (r.body.take j)) ++ termsLt r.body[j] = r.head.args ++ termsB (r.body.take (j + 1))) := by show _ = _; rw [termsB_snoc hlt, List.append_assoc]
      have hbd : (r.head.args ++ termsB (r.body.take j)).length + (termsLt r.body[j]).length ≤ 30000 := by
        rw [← List.length_append, HE.out, List.length_append]
        have := HLB.out (j + 1)
        omega
      clear hcall hoks hbx
      generalize termsLt r.body[j] = TL at *
      generalize r.head.args ++ termsB (r.body.take j) = Lj at *
      go_wp2_with (first
        | (refine wpList_load_at (o := ⟨some 16, _, _, _, _, _⟩) rfl 50 _ rfl b (o + j * 17) rfl [.int .i64 k0, .string s1, .slice A2 n2 m2, .int .i64 k3, .int .i64 k4, .string s5, .int .i64 k6, .int .i64 k7, .string s8, .slice A9 n9 m9, .int .i64 k10, .string s11, .int .i64 k12, .int .i64 k13, .string s14, .slice A15 n15 m15, .int .i64 k16] HCS.out _ Tryz.underlying50 rfl infoLit ?_)
        | (refine wpList_store_new (o := ⟨none, .store 50 _ _, _, _, _, _⟩) rfl 50 _ _ rfl #[.int .i64 k0, .string s1, .slice A2 n2 m2, .int .i64 k3, .int .i64 k4, .string s5, .int .i64 k6, .int .i64 k7, .string s8, .slice A9 n9 m9, .int .i64 k10, .string s11, .int .i64 k12, .int .i64 k13, .string s14, .slice A15 n15 m15, .int .i64 k16] rfl rfl 50 _ infoLit rfl HON.out ?_)
        | (refine wpList_load_row (o := ⟨some 18, _, _, _, _, _⟩) rfl 50 _ rfl wr.heap.size rfl 50 #[.int .i64 k0, .string s1, .slice A2 n2 m2, .int .i64 k3, .int .i64 k4, .string s5, .int .i64 k6, .int .i64 k7, .string s8, .slice A9 n9 m9, .int .i64 k10, .string s11, .int .i64 k12, .int .i64 k13, .string s14, .slice A15 n15 m15, .int .i64 k16] (0, 0) _ (heap_alloc_new _ _) Tryz.underlying50 rfl infoLit ?_))
      refine C.out.mono ?_
      rintro e w2 ⟨T2, tc2, rfl, ho2, hn2, hb2⟩
      have HB2 : Hid (Below w.heap.size w w2) := HBX.out.trans (hb2.mono HBX.out.size)
      have HO2 : Hid (w2.ownsRow w.heap.size 41 4 (.slice Aj Lj.length cj) Lj.length (flatM Lj)) := own_below (HOj.out.alloc _) hb2
      have HR2 := Lib.hid (Rg.own ho2 HOks.out (by omega))
      have HN2 := Lib.hid hn2
      have hs2 : w.heap.size ≤ w2.heap.size := HB2.out.size
      clear ho2 hn2 hb2 C HCS HON
      go_wp2_with (at_builtin; refine appTm _ rfl 42 41 Tryz.underlying42 infoTm (.tmp 17) (.tmp 19) rfl w.heap.size Lj _ rfl HO2.out T2 tc2 TL rfl HN2.out HR2.out (by omega) hs2 ?_; intro A' c' w3 ho3 hn3 hb3)
      have HO3 : Hid (w3.ownsRow w.heap.size 41 4 (.slice A' (Lj ++ TL).length c') (Lj ++ TL).length (flatM (Lj ++ TL))) := by show w3.ownsRow _ _ _ _ _ _; rw [List.length_append]; exact ho3
      rw [HE.out] at HO3
      have HN3 := Lib.hid hn3
      have HB3 : Hid (Below w.heap.size w w3) := HB2.out.trans hb3
      have HLn3 : Hid (Lj.length + TL.length = (r.head.args ++ termsB (r.body.take (j + 1))).length) := by show _ = _; rw [← HE.out, List.length_append]
      clear ho3 hn3 hb3
      go_roundw
      case rel => exact ⟨j + 1, A', c', by omega, by go_num, by rw [HLn3.out], HO3, HN3, HB3⟩
      case measure => simp [intOf]; omega
    · have hjk : j = r.body.length := by omega
      have ef : r.head.args ++ termsB (r.body.take j) = termsRu r := by rw [hjk, List.take_length]; rfl
      rw [ef] at HOj ⊢
      have C2 := Lib.hid (once_any Aj cj (termsRu r) wr (Rg.own HOj.out HOkB.out (Nat.le_trans HLn.out (by omega))) (Nat.le_trans HLn.out (by omega)))
      clear ef hjk
      go_wp2_with fail
      refine C2.out.mono ?_
      rintro e w2 ⟨T2, c2, rfl, ho2, hn2, hb2⟩
      have HF : Hid (OwnS w (names [] (termsRu r)) (.returned (.slice T2 (names [] (termsRu r)).length c2)) w2) := OwnS.lower ⟨T2, c2, rfl, ho2, hn2, hb2⟩ HB.out
      clear ho2 hn2 hb2
      go_wp2_with fail
      go_ret
      exact HF.out
end Go.Proofs.YtlfakhjcpdkaiaaGreatDoor

set_option linter.unusedVariables false
set_option linter.unusedSimpArgs false
namespace Go.Proofs.YtlfakhjcpdkaiaaGreatDoor
open Go.RowKit Go.Deep Go.Shelf

theorem count_set : ∀ (l : List Bool) (i : Nat), l[i]? = some false → (l.set i true).count false + 1 = l.count false
  | [], i, h => by simp at h
  | b :: r, 0, h => by
    simp only [List.getElem?_cons_zero, Option.some.injEq] at h
    subst h
    simp
  | b :: r, i + 1, h => by
    have ih := count_set r i (by simpa using h)
    rw [List.set_cons_succ, List.count_cons, List.count_cons]
    omega
section
variable {P : Program} {ops : Array Oper} {Q : Exit → Act → World → Prop}
theorem wpAny_done : ∀ (fuel : Nat) (l : Array Bool) (a : Act) (w : World), Region.ready .any ops l = [] → Q .normal a w → wpAny P .any ops Q fuel l a w
  | 0, _, _, _, h, hq => ⟨h, hq⟩
  | _ + 1, _, _, _, h, hq => ⟨fun _ => hq, fun i hi => by rw [h] at hi; cases hi⟩
theorem ready_mem {l : Array Bool} {i : Nat} : i ∈ Region.ready .any ops l ↔ i < ops.size ∧ l.getD i true = false ∧ ∃ o, ops[i]? = some o ∧ ∀ e ∈ o.after.toList, Region.binds .any e = true → l.getD e.on false = true := by
  unfold Region.ready
  simp only [List.mem_filter, List.mem_range, Bool.and_eq_true, Bool.not_eq_true']
  constructor
  · rintro ⟨h1, h2, h3⟩
    refine ⟨h1, h2, ops[i], Array.getElem?_eq_getElem h1, ?_⟩
    rw [Array.getElem?_eq_getElem h1] at h3
    simp only [Option.map_some, Option.getD_some] at h3
    rw [← Array.all_toList, List.all_eq_true] at h3
    intro e he hb
    have := h3 e he
    rw [hb] at this
    simpa using this
  · rintro ⟨h1, h2, o, ho, h3⟩
    refine ⟨h1, h2, ?_⟩
    rw [ho]
    simp only [Option.map_some, Option.getD_some]
    rw [← Array.all_toList, List.all_eq_true]
    intro e he
    cases hb : Region.binds .any e with
    | false => rfl
    | true => simpa using h3 e he hb
/-- between two operations. -/
structure MkI (m : Nat) (D : Nat → Tmp) (F : Nat → Value → World → Prop) (a0 : Act) (w0 : World) (l : Array Bool) (a : Act) (w : World) : Prop where
  sz : l.size = m + 1
  tm : a.tmps.size = a0.tmps.size
  df : a.defers = a0.defers
  fr : ∀ t, (∀ j, j < m → t ≠ D j) → a.tmps.getD t undef = a0.tmps.getD t undef
  low : Below w0.heap.size w0 w
  last : l.getD m true = false
  got : ∀ k, k < m → l.getD k false = true → F k (a.tmps.getD (D k) undef) w
theorem getD_put {a : Act} {d t : Tmp} {v : Value} (h : d < a.tmps.size) : (a.put (some d) v).tmps.getD t undef = if t = d then v else a.tmps.getD t undef := by
  simp only [Act.put]
  by_cases e : t = d
  · subst e
    rw [if_pos rfl]
    simp [Array.getD, h]
  · rw [if_neg e]
    simp only [Array.getD_eq_getD_getElem?]
    rw [Array.getElem?_setIfInBounds_ne (fun h => e h.symm)]
theorem getD_set {l : Array Bool} {i k : Nat} {b : Bool} (h : i < l.size) : (l.setIfInBounds i true).getD k b = if k = i then true else l.getD k b := by
  by_cases e : k = i
  · subst e
    rw [if_pos rfl]
    simp [Array.getD, h]
  · rw [if_neg e]
    simp only [Array.getD_eq_getD_getElem?]
    rw [Array.getElem?_setIfInBounds_ne (fun h => e h.symm)]
variable {m : Nat} {D : Nat → Tmp} {F : Nat → Value → World → Prop} {a0 : Act} {w0 : World}
theorem wpAny_makes (hsize : ops.size = m + 1) (hac : ∀ (i : Nat) o, ops[i]? = some o → ∀ e ∈ o.after.toList, e.on < i) (hdst : ∀ (i : Nat) o, i < m → ops[i]? = some o → o.dst = some (D i))
    (hinj : ∀ i j, i < m → j < m → D i = D j → i = j) (hlt : ∀ i, i < m → D i < a0.tmps.size) (hg : ∀ (i : Nat) o, ops[i]? = some o → o.guard = none)
    (hlast : ∀ o, ops[m]? = some o → ∀ i, i < m → ∃ e ∈ o.after.toList, Region.binds .any e = true ∧ e.on = i) (hF : ∀ k v X Y, F k v X → Below X.heap.size X Y → F k v Y)
    (hstep : ∀ i o, i < m → ops[i]? = some o → ∀ a w, (∀ t, (∀ j, j < m → t ≠ D j) → a.tmps.getD t undef = a0.tmps.getD t undef) → Below w0.heap.size w0 w → (∀ e ∈ o.after.toList, Region.binds .any e = true → F e.on (a.tmps.getD (D e.on) undef) w) →
      ∀ K : Act → World → Prop, (∀ v w', Below w.heap.size w w' → F i v w' → K (a.put o.dst v) w') → o.wp P a w K Q)
    (hfin : ∀ o, ops[m]? = some o → ∀ a w, a.defers = a0.defers → a.tmps.size = a0.tmps.size → (∀ t, (∀ j, j < m → t ≠ D j) → a.tmps.getD t undef = a0.tmps.getD t undef) → Below w0.heap.size w0 w → (∀ k, k < m → F k (a.tmps.getD (D k) undef) w) → o.wp P a w (fun a' w' => Q .normal a' w') Q) :
    ∀ (fuel : Nat) (l : Array Bool) (a : Act) (w : World), MkI m D F a0 w0 l a w → l.toList.count false ≤ fuel → wpAny P .any ops Q fuel l a w
  | 0, l, a, w, h, hc => by
    exfalso
    have hm : l.toList[m]? = some false := by
      have h1 := h.last
      have h2 : m < l.size := by rw [h.sz]; omega
      rw [Array.getD_eq_getD_getElem?, Array.getElem?_eq_getElem h2] at h1
      simp only [Option.getD_some] at h1
      rw [Array.getElem?_toList, Array.getElem?_eq_getElem h2, h1]
    have := count_set l.toList m hm
    omega
  | fuel + 1, l, a, w, h, hc => by
    refine ⟨fun h0 => ?_, fun i hi => ?_⟩
    · exfalso
      -- the first one that is not listed is ready
      have key : ∀ n, n ≤ m + 1 → ∀ k, k < n → l.getD k false = true := by
        intro n
        induction n with
        | zero => intro _ k hk; omega
        | succ n ih =>
          intro hn k hk
          by_cases e : k = n
          · subst e
            cases hb : l.getD k true with
            | true =>
              have h2 : k < l.size := by rw [h.sz]; omega
              rw [Array.getD_eq_getD_getElem?, Array.getElem?_eq_getElem h2] at hb ⊢
              simpa using hb
            | false =>
              exfalso
              have hlt' : k < ops.size := by omega
              have : k ∈ Region.ready .any ops l := ready_mem.2 ⟨hlt', hb, ops[k], Array.getElem?_eq_getElem hlt', fun e he _ => ih (by omega) _ (hac k _ (Array.getElem?_eq_getElem hlt') e he)⟩
              rw [h0] at this
              cases this
          · exact ih (by omega) k (by omega)
      have h1 := key (m + 1) (Nat.le_refl _) m (by omega)
      have h2 := h.last
      have h3 : m < l.size := by rw [h.sz]; omega
      rw [Array.getD_eq_getD_getElem?, Array.getElem?_eq_getElem h3] at h1 h2
      simp only [Option.getD_some] at h1 h2
      rw [h1] at h2
      cases h2
    · obtain ⟨hi1, hi2, o, ho, hdeps⟩ := ready_mem.1 hi
      have hil : i < l.size := by rw [h.sz]; omega
      have hcnt : (l.setIfInBounds i true).toList.count false + 1 = l.toList.count false := by
        rw [Array.toList_setIfInBounds]
        refine count_set _ _ ?_
        rw [Array.getD_eq_getD_getElem?, Array.getElem?_eq_getElem hil] at hi2
        simp only [Option.getD_some] at hi2
        rw [Array.getElem?_toList, Array.getElem?_eq_getElem hil, hi2]
      have hw : Region.wanted o (yielded ops a.tmps) = true := by unfold Region.wanted; rw [hg i o ho]
      unfold wpOp
      rw [ho]
      simp only [hw, if_true]
      refine .inl ?_
      by_cases him : i = m
      · subst him
        refine Oper.wp_mono (fun a' w' hq => wpAny_done fuel _ a' w' ?_ hq) (hfin o ho a w h.df h.tm h.fr h.low fun k hk => h.got k hk ?_)
        · -- nothing is left
          refine List.eq_nil_iff_forall_not_mem.2 fun j hj => ?_
          obtain ⟨j1, j2, _⟩ := ready_mem.1 hj
          rw [getD_set hil] at j2
          split at j2
          · cases j2
          · rename_i hne
            obtain ⟨e, he, hb, hon⟩ := hlast o ho j (by omega)
            have h5 := hdeps e he hb
            rw [hon] at h5
            have hjl : j < l.size := by rw [h.sz]; omega
            rw [Array.getD_eq_getD_getElem?, Array.getElem?_eq_getElem hjl] at h5 j2
            simp only [Option.getD_some] at h5 j2
            rw [h5] at j2
            cases j2
        · obtain ⟨e, he, hb, hon⟩ := hlast o ho k hk
          have h5 := hdeps e he hb
          rw [hon] at h5
          exact h5
      · have him' : i < m := by omega
        have hd := hdst i o him' ho
        refine hstep i o him' ho a w h.fr h.low (fun e he hb => h.got e.on (by have := hac i o ho e he; omega) (hdeps e he hb)) _ fun v w' hbw hv => ?_
        rw [hd]
        have hdl : D i < a.tmps.size := by rw [h.tm]; exact hlt i him'
        refine wpAny_makes hsize hac hdst hinj hlt hg hlast hF hstep hfin fuel _ _ _ ⟨?_, ?_, h.df, fun t ht => ?_, h.low.trans (hbw.mono h.low.size), ?_, fun k hk hlk => ?_⟩ (by omega)
        · simpa using h.sz
        · simpa [Act.put] using h.tm
        · rw [getD_put hdl, if_neg (ht i him')]
          exact h.fr t ht
        · rw [getD_set hil, if_neg (fun e => him e.symm)]
          exact h.last
        · rw [getD_set hil] at hlk
          rw [getD_put hdl]
          by_cases hki : k = i
          · subst hki
            rw [if_pos rfl]
            exact hv
          · rw [if_neg hki] at hlk
            rw [if_neg fun e => hki (hinj k i hk him' e)]
            exact hF k _ _ _ (h.got k hk hlk) hbw
theorem wp_region_makes {id : Nat} (hm : P.follows .mixedOrders = true) (hsize : ops.size = m + 1) (hac : ∀ (i : Nat) o, ops[i]? = some o → ∀ e ∈ o.after.toList, e.on < i) (hdst : ∀ (i : Nat) o, i < m → ops[i]? = some o → o.dst = some (D i))
    (hinj : ∀ i j, i < m → j < m → D i = D j → i = j) (hlt : ∀ i, i < m → D i < a0.tmps.size) (hg : ∀ (i : Nat) o, ops[i]? = some o → o.guard = none)
    (hlast : ∀ o, ops[m]? = some o → ∀ i, i < m → ∃ e ∈ o.after.toList, Region.binds .any e = true ∧ e.on = i) (hF : ∀ k v X Y, F k v X → Below X.heap.size X Y → F k v Y)
    (hstep : ∀ i o, i < m → ops[i]? = some o → ∀ a w, (∀ t, (∀ j, j < m → t ≠ D j) → a.tmps.getD t undef = a0.tmps.getD t undef) → Below w0.heap.size w0 w → (∀ e ∈ o.after.toList, Region.binds .any e = true → F e.on (a.tmps.getD (D e.on) undef) w) →
      ∀ K : Act → World → Prop, (∀ v w', Below w.heap.size w w' → F i v w' → K (a.put o.dst v) w') → o.wp P a w K Q)
    (hfin : ∀ o, ops[m]? = some o → ∀ a w, a.defers = a0.defers → a.tmps.size = a0.tmps.size → (∀ t, (∀ j, j < m → t ≠ D j) → a.tmps.getD t undef = a0.tmps.getD t undef) → Below w0.heap.size w0 w → (∀ k, k < m → F k (a.tmps.getD (D k) undef) w) → o.wp P a w (fun a' w' => Q .normal a' w') Q) :
    (Code.region id ops true).wp P Q a0 w0 := by
  refine wp_region_any hm (wpAny_makes hsize hac hdst hinj hlt hg hlast hF hstep hfin _ _ _ _ ⟨by simp [hsize], rfl, rfl, fun _ _ => rfl, (Below.refl _ _).drew, ?_, fun k hk h => ?_⟩ ?_)
  · simp [Array.getD, hsize]
  · exfalso
    have : k < m + 1 := by omega
    simp [Array.getD, hsize, this] at h
  · simp
end
end Go.Proofs.YtlfakhjcpdkaiaaGreatDoor

set_option linter.unusedVariables false
set_option linter.unusedSimpArgs false
namespace Go.Proofs.YtlfakhjcpdkaiaaGreatDoor
open Go.RowKit Go.Deep Go.Shelf

set_option maxRecDepth 100000 in
theorem v_any (s : ByteArray) (w : World) : Calls Tryz.prog 11 #[.string s] w fun e w' => e = .returned (.agg #[.int .i64 0, .string s, .int .i64 0, .int .i64 0, .string noText, .slice none 0 0]) ∧ w' = w.alloc (.cells #[.int .i64 0, .string s, .int .i64 0, .int .i64 0, .string noText, .slice none 0 0] 48) := by
  go_enter Tryz.func11, Tryz.ntmps11
  go_wp2
  exact bodyPost_ret (v := .agg #[.int .i64 0, .string s, .int .i64 0, .int .i64 0, .string noText, .slice none 0 0]) (by simp [results, Tryz.results11, go_sem]) rfl ⟨rfl, rfl⟩
/-- texts in a row. -/
def TxRow (w : World) (A : Option Addr) (L : List ByteArray) : Prop := 0 < L.length → ∃ b o, A = some ⟨b, o, none⟩ ∧ b < w.heap.size ∧ ∀ (i : Nat) x, L[i]? = some x → w.cell? ⟨b, o + i, none⟩ = some (.string x)
theorem TxRow.own {w : World} {base : Nat} {e : TypeId} {A : Option Addr} {c : Nat} {L : List ByteArray} (h : w.ownsRow base e 1 (.slice A L.length c) L.length (L.map Value.string)) : TxRow w A L := fun h0 => by
  rcases h.2 with ⟨h1, h2⟩ | ⟨g, cap, cur, h1, hg, hc, hcap, _, hcs, htake⟩
  · omega
  · injection h1 with h1 _ _
    subst h1
    refine ⟨g, 0, rfl, (Array.getElem?_eq_some_iff.1 hc).1, fun i y hy => ?_⟩
    have hu : (L.map Value.string)[i]? = some (.string y) := by rw [List.getElem?_map, hy]; rfl
    rw [Nat.zero_add, cell_of_row w g i cur e (0, 0) hc]
    rw [← htake, List.getElem?_take] at hu
    split at hu
    · simpa using hu
    · cases hu
theorem TxRow.pers {w w' : World} {A : Option Addr} {L : List ByteArray} (h : TxRow w A L) (hp : Pers w w') : TxRow w' A L := fun h0 => by
  obtain ⟨b, o, h1, h2, h3⟩ := h h0
  exact ⟨b, o, h1, Nat.lt_of_lt_of_le h2 hp.1, fun i x hx => hp.2 _ _ (h3 i x hx)⟩
set_option maxRecDepth 100000 in
set_option maxHeartbeats 400000 in
theorem Texts_same (A A' : Option Addr) (c c' : Nat) (L : List ByteArray) (w : World) (hl : L.length ≤ 100000) (hr : TxRow w A L) (hr' : TxRow w A' L) :
    Calls Tryz.prog 12 #[.slice A L.length c, .slice A' L.length c'] w fun e w' => e = .returned (.bool true) ∧ Below w.heap.size w w' := by
  have HR := Lib.hid hr
  have HR' := Lib.hid hr'
  clear hr hr'
  go_enter Tryz.func12, Tryz.ntmps12
  go_wp2_with fail
  go_loopw [13] (fun i wr => ∃ j : Nat, j ≤ L.length ∧ i = .int .i64 j ∧ Hid (Below w.heap.size w wr)) (fun i _ => L.length - (intOf i).toNat)
  case atStart => exact ⟨0, Nat.zero_le _, rfl, Lib.hid (Below.refl _ _)⟩
  case round =>
    obtain ⟨j, hj, rfl, HB⟩ := hrel
    by_cases hlt : j < L.length
    · obtain ⟨b, o, rfl, hbw, hc⟩ := HR.out (by omega)
      obtain ⟨b', o', rfl, hbw', hc'⟩ := HR'.out (by omega)
      have c0 := (HB.out.cell (p := ⟨b, o + j, none⟩) hbw).trans (hc j _ (List.getElem?_eq_getElem hlt))
      have d0 := (HB.out.cell (p := ⟨b', o' + j, none⟩) hbw').trans (hc' j _ (List.getElem?_eq_getElem hlt))
      clear hc hc'
      generalize L[j] = y at *
      go_wp2_with fail
      go_quiet (fail)
      go_wp2_with fail
      go_roundw
      case rel => exact ⟨j + 1, by omega, by go_num, below_drewN HB.out _⟩
      case measure => simp [intOf]; omega
    · go_wp2_with fail
      go_ret
      exact ⟨rfl, HB.out⟩

section
variable {ops : Array Oper} {m : Nat} {D : Nat → Tmp}
theorem ac_of (h : ((List.range ops.size).all fun i => ((ops[i]?).map fun o => o.after.toList.all fun e => decide (e.on < i)).getD true) = true) : ∀ (i : Nat) o, ops[i]? = some o → ∀ e ∈ o.after.toList, e.on < i := by
  intro i o ho e he
  have h1 := List.all_eq_true.1 h i (List.mem_range.2 (Array.getElem?_eq_some_iff.1 ho).1)
  rw [ho] at h1
  simp only [Option.map_some, Option.getD_some] at h1
  exact of_decide_eq_true (List.all_eq_true.1 h1 e he)
theorem dst_of (h : ((List.range m).all fun i => ((ops[i]?).map fun o => decide (o.dst = some (D i))).getD false) = true) : ∀ (i : Nat) o, i < m → ops[i]? = some o → o.dst = some (D i) := by
  intro i o hi ho
  have h1 := List.all_eq_true.1 h i (List.mem_range.2 hi)
  rw [ho] at h1
  simp only [Option.map_some, Option.getD_some] at h1
  exact of_decide_eq_true h1
theorem inj_of (h : ((List.range m).all fun i => (List.range m).all fun j => decide (D i = D j → i = j)) = true) : ∀ i j, i < m → j < m → D i = D j → i = j := fun i j hi hj =>
  of_decide_eq_true (List.all_eq_true.1 (List.all_eq_true.1 h i (List.mem_range.2 hi)) j (List.mem_range.2 hj))
theorem lt_of {n : Nat} (h : ((List.range m).all fun i => decide (D i < n)) = true) : ∀ i, i < m → D i < n := fun i hi => of_decide_eq_true (List.all_eq_true.1 h i (List.mem_range.2 hi))
theorem guard_of (h : ((List.range ops.size).all fun i => ((ops[i]?).map fun o => o.guard.isNone).getD true) = true) : ∀ (i : Nat) o, ops[i]? = some o → o.guard = none := by
  intro i o ho
  have h1 := List.all_eq_true.1 h i (List.mem_range.2 (Array.getElem?_eq_some_iff.1 ho).1)
  rw [ho] at h1
  simpa using h1
theorem last_of (h : (((ops[m]?).map fun o => (List.range m).all fun i => o.after.toList.any fun e => Region.binds .any e && decide (e.on = i)).getD true) = true) : ∀ o, ops[m]? = some o → ∀ i, i < m → ∃ e ∈ o.after.toList, Region.binds .any e = true ∧ e.on = i := by
  intro o ho i hi
  rw [ho] at h
  simp only [Option.map_some, Option.getD_some] at h
  have h1 := List.all_eq_true.1 h i (List.mem_range.2 hi)
  obtain ⟨e, he, h2⟩ := List.any_eq_true.1 h1
  rw [Bool.and_eq_true] at h2
  exact ⟨e, he, h2.1, of_decide_eq_true h2.2⟩
end

def tX : TTm := ⟨⟨#[88]⟩, 0, 0, noText⟩
def tY : TTm := ⟨⟨#[89]⟩, 0, 0, noText⟩
def tZ : TTm := ⟨⟨#[90]⟩, 0, 0, noText⟩
def eX : TEx := .mk 0 tX []
def eZ : TEx := .mk 0 tZ []
def e0 : TEx := .mk 0 zT []
def lt1 : TLt := ⟨1, ⟨⟨#[113]⟩, [tY, tZ]⟩, 0, e0, e0, 0⟩
def lt2 : TLt := ⟨3, ⟨noText, []⟩, 1, eX, eZ, 0⟩
def ru0 : TRu := ⟨⟨⟨#[112]⟩, [tX, tY]⟩, 0, 0, [lt1, lt2], 0⟩
theorem ru0_names : names [] (termsRu ru0) = [⟨#[88]⟩, ⟨#[89]⟩, ⟨#[90]⟩] := by decide +kernel
theorem ru0_right : rightRu ru0 = true := by decide +kernel
theorem var_X : soleB 3 ⟨#[88]⟩ = true := by decide +kernel
theorem var_x : soleB 3 ⟨#[120]⟩ = false := by decide +kernel
theorem ok_small {t : TTm} (h1 : t.v.size ≤ 10) (h2 : t.s.size ≤ 10) : okTm t := ⟨by omega, by omega⟩
theorem okX : okTm tX := ok_small (by decide) (by decide)
theorem okY : okTm tY := ok_small (by decide) (by decide)
theorem okZ : okTm tZ := ok_small (by decide) (by decide)
theorem ok0 : okTm zT := ok_small (by decide) (by decide)
theorem leafV {w : World} {t : TTm} (h : okTm t) : ExV w (.mk 0 t []) none := ⟨h, Rg.nil⟩
def alD (k : Nat) : Nat := ([8, 9, 10, 11, 12, 13, 14, 15, 16, 17, 18, 19, 20, 21, 4] : List Nat).getD k 0
/-- what is known of each value of the example's region. -/
def AlF (w0 : World) : Nat → Value → World → Prop
  | 0, v, _ => v = .agg #[.string ⟨#[88]⟩, .int .i64 0, .int .i64 0, .string noText]
  | 1, v, _ => v = .agg #[.string ⟨#[89]⟩, .int .i64 0, .int .i64 0, .string noText]
  | 2, v, w => ∃ b, v = .slice (some ⟨b, 0, none⟩) 2 2 ∧ Rg 4 TmC w (some ⟨b, 0, none⟩) [tX, tY]
  | 3, v, w => ∃ b, v = .agg #[.string ⟨#[112]⟩, .slice (some ⟨b, 0, none⟩) 2 2] ∧ Rg 4 TmC w (some ⟨b, 0, none⟩) [tX, tY]
  | 4, v, _ => v = .agg #[.string ⟨#[89]⟩, .int .i64 0, .int .i64 0, .string noText]
  | 5, v, _ => v = .agg #[.string ⟨#[90]⟩, .int .i64 0, .int .i64 0, .string noText]
  | 6, v, w => ∃ b, v = .slice (some ⟨b, 0, none⟩) 2 2 ∧ Rg 4 TmC w (some ⟨b, 0, none⟩) [tY, tZ]
  | 7, v, w => ∃ b, v = .agg #[.string ⟨#[113]⟩, .slice (some ⟨b, 0, none⟩) 2 2] ∧ Rg 4 TmC w (some ⟨b, 0, none⟩) [tY, tZ]
  | 8, v, w => ∃ b, v = .agg #[.int .i64 1, .string ⟨#[113]⟩, .slice (some ⟨b, 0, none⟩) 2 2, .int .i64 0, .int .i64 0, .string noText, .int .i64 0, .int .i64 0, .string noText, .slice none 0 0, .int .i64 0, .string noText, .int .i64 0, .int .i64 0, .string noText, .slice none 0 0, .int .i64 0] ∧ Rg 4 TmC w (some ⟨b, 0, none⟩) [tY, tZ]
  | 9, v, _ => v = .agg #[.int .i64 0, .string ⟨#[88]⟩, .int .i64 0, .int .i64 0, .string noText, .slice none 0 0]
  | 10, v, _ => v = .agg #[.int .i64 0, .string ⟨#[90]⟩, .int .i64 0, .int .i64 0, .string noText, .slice none 0 0]
  | 11, v, _ => v = .agg #[.int .i64 3, .string noText, .slice none 0 0, .int .i64 1, .int .i64 0, .string ⟨#[88]⟩, .int .i64 0, .int .i64 0, .string noText, .slice none 0 0, .int .i64 0, .string ⟨#[90]⟩, .int .i64 0, .int .i64 0, .string noText, .slice none 0 0, .int .i64 0]
  | 12, v, w => ∃ b, v = .slice (some ⟨b, 0, none⟩) 2 2 ∧ Rg 17 LtC w (some ⟨b, 0, none⟩) [lt1, lt2]
  | 13, v, w => ∃ b g, v = .agg #[.string ⟨#[112]⟩, .slice (some ⟨b, 0, none⟩) 2 2, .int .i64 0, .int .i64 0, .slice (some ⟨g, 0, none⟩) 2 2, .int .i64 0] ∧ RuV w ru0 (some ⟨b, 0, none⟩) (some ⟨g, 0, none⟩)
  | 14, v, w => ∃ b, v = .pointer (some ⟨b, 0, none⟩) ∧ Own w b 54 [.string noText, .slice none 0 0, .int .i64 0, .int .i64 0, .slice none 0 0, .int .i64 0] ∧ w0.heap.size ≤ b
  | _, _, _ => False
theorem AlF.keep {w0 : World} : ∀ k v X Y, AlF w0 k v X → Below X.heap.size X Y → AlF w0 k v Y
  | 0, _, _, _, h, _ => h
  | 1, _, _, _, h, _ => h
  | 2, _, _, _, ⟨b, h1, h2⟩, hb => ⟨b, h1, h2.tm (.of hb)⟩
  | 3, _, _, _, ⟨b, h1, h2⟩, hb => ⟨b, h1, h2.tm (.of hb)⟩
  | 4, _, _, _, h, _ => h
  | 5, _, _, _, h, _ => h
  | 6, _, _, _, ⟨b, h1, h2⟩, hb => ⟨b, h1, h2.tm (.of hb)⟩
  | 7, _, _, _, ⟨b, h1, h2⟩, hb => ⟨b, h1, h2.tm (.of hb)⟩
  | 8, _, _, _, ⟨b, h1, h2⟩, hb => ⟨b, h1, h2.tm (.of hb)⟩
  | 9, _, _, _, h, _ => h
  | 10, _, _, _, h, _ => h
  | 11, _, _, _, h, _ => h
  | 12, _, _, _, ⟨b, h1, h2⟩, hb => ⟨b, h1, h2.lt (.of hb)⟩
  | 13, _, _, _, ⟨b, g, h1, h2⟩, hb => ⟨b, g, h1, h2.below hb⟩
  | 14, _, _, _, ⟨b, h1, h2, h3⟩, hb => ⟨b, h1, h2.below hb, h3⟩
  | _ + 15, _, _, _, h, _ => h
theorem mk_val {P : Program} {o : Oper} {a : Act} {w w' : World} {K : Act → World → Prop} {Q : Exit → Act → World → Prop} {v : Value} (h : (execOp a.eval o).run P w = .ok (.value v) w') (hK : K (a.put o.dst v) w') : o.wp P a w K Q := by
  unfold Oper.wp
  rw [h]
  exact hK
theorem mk_call {P : Program} {o : Oper} {a : Act} {w : World} {K : Act → World → Prop} {Q : Exit → Act → World → Prop} {f : FuncId} {args : Array Value} (h : (execOp a.eval o).run P w = .ok (.enter f args) w)
    (hc : Calls P f args w fun e w' => ∃ v, e = .returned v ∧ K (a.put o.dst v) w') : o.wp P a w K Q := by
  unfold Oper.wp
  rw [h]
  refine hc.mono ?_
  rintro e w' ⟨v, rfl, hk⟩
  exact hk
theorem tm_row2 {w : World} {x y : TTm} (hx : okTm x) (hy : okTm y) (E : TypeId) : Rg 4 TmC (w.alloc (.cells #[.string x.v, .int .i64 x.k, .int .i64 x.n, .string x.s, .string y.v, .int .i64 y.k, .int .i64 y.n, .string y.s] E)) (some ⟨w.heap.size, 0, none⟩) [x, y] := by
  refine ⟨by simp, fun _ => ⟨w.heap.size, 0, rfl, by simp, fun i t ht => ?_⟩⟩
  match i, ht with
  | 0, ht =>
    simp only [List.getElem?_cons_zero, Option.some.injEq] at ht
    subst ht
    exact ⟨by simp, by simp, by simp, by simp, hx⟩
  | 1, ht =>
    simp only [List.getElem?_cons_succ, List.getElem?_cons_zero, Option.some.injEq] at ht
    subst ht
    exact ⟨by simp, by simp, by simp, by simp, hy⟩
  | n + 2, ht => simp at ht
theorem lt_row2 {w : World} {b : Nat} (hr : Rg 4 TmC w (some ⟨b, 0, none⟩) [tY, tZ]) : Rg 17 LtC (w.alloc (.cells #[.int .i64 1, .string ⟨#[113]⟩, .slice (some ⟨b, 0, none⟩) 2 2, .int .i64 0, .int .i64 0, .string noText, .int .i64 0, .int .i64 0, .string noText, .slice none 0 0, .int .i64 0, .string noText, .int .i64 0, .int .i64 0, .string noText, .slice none 0 0, .int .i64 0, .int .i64 3, .string noText, .slice none 0 0, .int .i64 1, .int .i64 0, .string ⟨#[88]⟩, .int .i64 0, .int .i64 0, .string noText, .slice none 0 0, .int .i64 0, .string ⟨#[90]⟩, .int .i64 0, .int .i64 0, .string noText, .slice none 0 0, .int .i64 0] 50)) (some ⟨w.heap.size, 0, none⟩) [lt1, lt2] := by
  have hb : Below w.heap.size w (w.alloc (.cells #[.int .i64 1, .string ⟨#[113]⟩, .slice (some ⟨b, 0, none⟩) 2 2, .int .i64 0, .int .i64 0, .string noText, .int .i64 0, .int .i64 0, .string noText, .slice none 0 0, .int .i64 0, .string noText, .int .i64 0, .int .i64 0, .string noText, .slice none 0 0, .int .i64 0, .int .i64 3, .string noText, .slice none 0 0, .int .i64 1, .int .i64 0, .string ⟨#[88]⟩, .int .i64 0, .int .i64 0, .string noText, .slice none 0 0, .int .i64 0, .string ⟨#[90]⟩, .int .i64 0, .int .i64 0, .string noText, .slice none 0 0, .int .i64 0] 50)) := (Below.refl _ _).alloc (Nat.le_refl _) _
  have hO : Own (w.alloc (.cells #[.int .i64 1, .string ⟨#[113]⟩, .slice (some ⟨b, 0, none⟩) 2 2, .int .i64 0, .int .i64 0, .string noText, .int .i64 0, .int .i64 0, .string noText, .slice none 0 0, .int .i64 0, .string noText, .int .i64 0, .int .i64 0, .string noText, .slice none 0 0, .int .i64 0, .int .i64 3, .string noText, .slice none 0 0, .int .i64 1, .int .i64 0, .string ⟨#[88]⟩, .int .i64 0, .int .i64 0, .string noText, .slice none 0 0, .int .i64 0, .string ⟨#[90]⟩, .int .i64 0, .int .i64 0, .string noText, .slice none 0 0, .int .i64 0] 50)) w.heap.size 50 [.int .i64 1, .string ⟨#[113]⟩, .slice (some ⟨b, 0, none⟩) 2 2, .int .i64 0, .int .i64 0, .string noText, .int .i64 0, .int .i64 0, .string noText, .slice none 0 0, .int .i64 0, .string noText, .int .i64 0, .int .i64 0, .string noText, .slice none 0 0, .int .i64 0, .int .i64 3, .string noText, .slice none 0 0, .int .i64 1, .int .i64 0, .string ⟨#[88]⟩, .int .i64 0, .int .i64 0, .string noText, .slice none 0 0, .int .i64 0, .string ⟨#[90]⟩, .int .i64 0, .int .i64 0, .string noText, .slice none 0 0, .int .i64 0] := heap_alloc_new _ _
  refine ⟨by simp, fun _ => ⟨w.heap.size, 0, rfl, by simp, fun i t ht => ?_⟩⟩
  match i, ht with
  | 0, ht =>
    simp only [List.getElem?_cons_zero, Option.some.injEq] at ht
    subst ht
    exact LtC.shut (A := some ⟨b, 0, none⟩) (c := 2) (L := none) (d := 0) (R := none) (f := 0) ⟨hO.cell 0, hO.cell 1, hO.cell 2, hO.cell 3, ⟨hO.cell 4, hO.cell 5, hO.cell 6, hO.cell 7, hO.cell 8, hO.cell 9⟩, ⟨hO.cell 10, hO.cell 11, hO.cell 12, hO.cell 13, hO.cell 14, hO.cell 15⟩, hO.cell 16⟩
      ⟨⟨by decide, hr.tm (.of hb)⟩, leafV ok0, leafV ok0, by decide, by decide⟩
  | 1, ht =>
    simp only [List.getElem?_cons_succ, List.getElem?_cons_zero, Option.some.injEq] at ht
    subst ht
    exact LtC.shut (A := none) (c := 0) (L := none) (d := 0) (R := none) (f := 0) ⟨hO.cell 17, hO.cell 18, hO.cell 19, hO.cell 20, ⟨hO.cell 21, hO.cell 22, hO.cell 23, hO.cell 24, hO.cell 25, hO.cell 26⟩, ⟨hO.cell 27, hO.cell 28, hO.cell 29, hO.cell 30, hO.cell 31, hO.cell 32⟩, hO.cell 33⟩
      ⟨⟨by decide, Rg.nil⟩, leafV okX, leafV okZ, by decide, by decide⟩
  | n + 2, ht => simp at ht
theorem cons_of {α : Type} {n : Nat} : ∀ {l : List α}, l.length = n + 1 → ∃ x r, l = x :: r ∧ r.length = n
  | x :: r, h => ⟨x, r, rfl, by simpa using h⟩
theorem al_own (w : World) : Own (((w.alloc (.cells #[.string ⟨#[88]⟩, .int .i64 0, .int .i64 0, .string noText] 41)).alloc (.cells #[.string ⟨#[89]⟩, .int .i64 0, .int .i64 0, .string noText] 41)).alloc (.cells #[.string ⟨#[90]⟩, .int .i64 0, .int .i64 0, .string noText] 41)) w.heap.size 41 [.string ⟨#[88]⟩, .int .i64 0, .int .i64 0, .string noText] ∧ Own (((w.alloc (.cells #[.string ⟨#[88]⟩, .int .i64 0, .int .i64 0, .string noText] 41)).alloc (.cells #[.string ⟨#[89]⟩, .int .i64 0, .int .i64 0, .string noText] 41)).alloc (.cells #[.string ⟨#[90]⟩, .int .i64 0, .int .i64 0, .string noText] 41)) (w.heap.size + 1) 41 [.string ⟨#[89]⟩, .int .i64 0, .int .i64 0, .string noText] ∧ Own (((w.alloc (.cells #[.string ⟨#[88]⟩, .int .i64 0, .int .i64 0, .string noText] 41)).alloc (.cells #[.string ⟨#[89]⟩, .int .i64 0, .int .i64 0, .string noText] 41)).alloc (.cells #[.string ⟨#[90]⟩, .int .i64 0, .int .i64 0, .string noText] 41)) (w.heap.size + 1 + 1) 41 [.string ⟨#[90]⟩, .int .i64 0, .int .i64 0, .string noText] ∧ (((w.alloc (.cells #[.string ⟨#[88]⟩, .int .i64 0, .int .i64 0, .string noText] 41)).alloc (.cells #[.string ⟨#[89]⟩, .int .i64 0, .int .i64 0, .string noText] 41)).alloc (.cells #[.string ⟨#[90]⟩, .int .i64 0, .int .i64 0, .string noText] 41)).heap.size = w.heap.size + 3 := by
  have a0 : Own (w.alloc (.cells #[.string ⟨#[88]⟩, .int .i64 0, .int .i64 0, .string noText] 41)) w.heap.size 41 [.string ⟨#[88]⟩, .int .i64 0, .int .i64 0, .string noText] := heap_alloc_new _ _
  have a1 := heap_alloc_new (w.alloc (.cells #[.string ⟨#[88]⟩, .int .i64 0, .int .i64 0, .string noText] 41)) (.cells #[.string ⟨#[89]⟩, .int .i64 0, .int .i64 0, .string noText] 41)
  have a2 := heap_alloc_new ((w.alloc (.cells #[.string ⟨#[88]⟩, .int .i64 0, .int .i64 0, .string noText] 41)).alloc (.cells #[.string ⟨#[89]⟩, .int .i64 0, .int .i64 0, .string noText] 41)) (.cells #[.string ⟨#[90]⟩, .int .i64 0, .int .i64 0, .string noText] 41)
  simp only [World.size_alloc] at a1 a2
  have a1' : Own ((w.alloc (.cells #[.string ⟨#[88]⟩, .int .i64 0, .int .i64 0, .string noText] 41)).alloc (.cells #[.string ⟨#[89]⟩, .int .i64 0, .int .i64 0, .string noText] 41)) (w.heap.size + 1) 41 [.string ⟨#[89]⟩, .int .i64 0, .int .i64 0, .string noText] := a1
  exact ⟨(a0.alloc _).alloc _, a1'.alloc _, a2, by simp⟩
section
variable {X Y : World} {b4 : Nat}
/-- a store into the new rule's block leaves its parts as they are. -/
theorem tm_off (hs : X.heap.size ≤ Y.heap.size) (hX : ∀ b i v, b ≠ b4 → X.cell? ⟨b, i, none⟩ = some v → Y.cell? ⟨b, i, none⟩ = some v) {A : Option Addr} {l : List TTm} (h : Rg 4 TmC X A l) (hne : 0 < l.length → ∀ a, A = some a → a.block ≠ b4) : Rg 4 TmC Y A l :=
  ⟨h.1, fun h0 => by
    obtain ⟨b, o, h1, h2, h3⟩ := h.2 h0
    have hb := hne h0 _ h1
    exact ⟨b, o, h1, Nat.lt_of_lt_of_le h2 hs, fun i y hy => by
      obtain ⟨c0, c1, c2, c3, hk⟩ := h3 i y hy
      exact ⟨hX _ _ _ hb c0, hX _ _ _ hb c1, hX _ _ _ hb c2, hX _ _ _ hb c3, hk⟩⟩⟩
theorem row_ne4 (hO : Own X b4 54 [.string noText, .slice none 0 0, .int .i64 0, .int .i64 0, .slice none 0 0, .int .i64 0]) {A : Option Addr} {x y : TTm} (h : Rg 4 TmC X A [x, y]) (hx : x.v ≠ noText) : ∀ a, A = some a → a.block ≠ b4 := by
  intro a ha e
  obtain ⟨b, o, h1, _, h3⟩ := h.2 (by simp)
  rw [ha] at h1
  injection h1 with h1
  subst h1
  have hb : b = b4 := e
  subst hb
  have h4 := (h3 0 x rfl).1
  rw [Nat.zero_mul, Nat.add_zero, hO.cell] at h4
  match o, h4 with
  | 0, h4 => simp at h4; exact hx h4.symm
  | 1, h4 => simp at h4
  | 2, h4 => simp at h4
  | 3, h4 => simp at h4
  | 4, h4 => simp at h4
  | 5, h4 => simp at h4
  | n + 6, h4 => simp at h4
theorem lt_off (hs : X.heap.size ≤ Y.heap.size) (hX : ∀ b i v, b ≠ b4 → X.cell? ⟨b, i, none⟩ = some v → Y.cell? ⟨b, i, none⟩ = some v) {g o : Nat} {x : TLt} (hg : g ≠ b4) (h : LtC X g o x) (hl : x.left.kids = []) (hr : x.right.kids = []) (hne : 0 < x.atom.args.length → ∀ A, Rg 4 TmC X A x.atom.args → ∀ a, A = some a → a.block ≠ b4) : LtC Y g o x := by
  obtain ⟨AA, ac, L, d, R, f, ⟨c0, c1, c2, c3, ⟨c4, c5, c6, c7, c8, c9⟩, ⟨d0, d1, d2, d3, d4, d5⟩, c16⟩, hv⟩ := h.open_
  refine LtC.shut (A := AA) (c := ac) (L := L) (d := d) (R := R) (f := f) ⟨hX _ _ _ hg c0, hX _ _ _ hg c1, hX _ _ _ hg c2, hX _ _ _ hg c3, ⟨hX _ _ _ hg c4, hX _ _ _ hg c5, hX _ _ _ hg c6, hX _ _ _ hg c7, hX _ _ _ hg c8, hX _ _ _ hg c9⟩, ⟨hX _ _ _ hg d0, hX _ _ _ hg d1, hX _ _ _ hg d2, hX _ _ _ hg d3, hX _ _ _ hg d4, hX _ _ _ hg d5⟩, hX _ _ _ hg c16⟩
    ⟨⟨hv.am.ok, tm_off hs hX hv.am.row fun h0 => hne h0 _ hv.am.row⟩, ⟨hv.left.ok, by rw [hl]; exact Rg.nil⟩, ⟨hv.right.ok, by rw [hr]; exact Rg.nil⟩, hv.lo, hv.hi⟩
theorem ru_off (hO : Own X b4 54 [.string noText, .slice none 0 0, .int .i64 0, .int .i64 0, .slice none 0 0, .int .i64 0]) (hs : X.heap.size ≤ Y.heap.size) (hX : ∀ b i v, b ≠ b4 → X.cell? ⟨b, i, none⟩ = some v → Y.cell? ⟨b, i, none⟩ = some v) {b g : Nat} (h : RuV X ru0 (some ⟨b, 0, none⟩) (some ⟨g, 0, none⟩)) : RuV Y ru0 (some ⟨b, 0, none⟩) (some ⟨g, 0, none⟩) := by
  have hr : Rg 17 LtC X (some ⟨g, 0, none⟩) [lt1, lt2] := h.row
  have hg : g ≠ b4 := by
    intro e
    subst e
    obtain ⟨g', o', h1, _, h3⟩ := hr.2 (by simp)
    injection h1 with h1
    injection h1 with h1 h2 _
    subst h1 h2
    have h4 := (h3 0 lt1 rfl).1
    rw [Nat.zero_mul, Nat.add_zero, hO.cell] at h4
    simp at h4
  refine ⟨⟨h.am.ok, tm_off hs hX h.am.row fun _ => row_ne4 (x := tX) (y := tY) hO h.am.row (by decide)⟩, hr.1, fun h0 => ?_⟩
  obtain ⟨g', o', h1, h2, h3⟩ := hr.2 (by simp)
  injection h1 with h1
  injection h1 with h11 h12 _
  subst h11 h12
  refine ⟨g, 0, rfl, Nat.lt_of_lt_of_le h2 hs, fun i y hy => ?_⟩
  match i, hy with
  | 0, hy =>
    cases hy
    exact lt_off hs hX hg (h3 0 lt1 rfl) rfl rfl fun _ A hA => row_ne4 (x := tY) (y := tZ) hO hA (by decide)
  | 1, hy =>
    cases hy
    exact lt_off hs hX hg (h3 1 lt2 rfl) rfl rfl fun h0 => absurd h0 (by decide)
  | n + 2, hy => exact absurd hy (by simp [ru0])
end
theorem infoRu : (Tryz.prog.info? 54).map (·.size) = some 6 := by kernel_rfl
theorem infoTm4 : (Tryz.prog.info? 41).map (·.size) = some 4 := by kernel_rfl

set_option maxRecDepth 100000 in
set_option maxHeartbeats 4000000 in
theorem alive_any (w : World) (hL : Lays w) : Calls Tryz.prog 4 #[] w fun e w' => e = .returned (.bool true) ∧ Below w.heap.size w w' := by
  have mixed : Tryz.prog.follows .mixedOrders = true := by kernel_rfl
  have HL := Lib.hid hL
  clear hL
  have HO := Lib.hid (al_own w)
  go_enter Tryz.func4, Tryz.ntmps4
  go_wp2_with fail
  rename_i Q1 K1 hK1
  refine wp_region_makes (m := 15) (D := alD) (F := AlF w) mixed rfl ?hac ?hdst ?hinj ?hlt ?hg ?hlast AlF.keep ?hstep ?hfin
  case hac => exact ac_of (by kernel_rfl)
  case hdst => exact dst_of (by kernel_rfl)
  case hinj => exact inj_of (by kernel_rfl)
  case hlt =>
    intro i hi
    exact lt_of (n := 37) (by kernel_rfl) i hi
  case hg => exact guard_of (by kernel_rfl)
  case hlast => exact last_of (by kernel_rfl)
  case hstep =>
    intro i o hi ho a w1 hfr hlow hdep K hK
    obtain ⟨hO1, hO2, hO3, hsz0⟩ := HO.out
    have hlow0 : w.heap.size ≤ w1.heap.size := Nat.le_trans (by rw [hsz0]; omega) hlow.size
    match i, hi with
    | 0, _ =>
      simp only [List.getElem?_toArray, List.getElem?_cons_zero, List.getElem?_cons_succ, Option.some.injEq] at ho
      subst ho
      have h1 : a.tmps.getD 1 undef = .pointer (some ⟨w.heap.size, 0, none⟩) := (hfr 1 (by decide)).trans rfl
      refine mk_val (v := .agg #[.string ⟨#[88]⟩, .int .i64 0, .int .i64 0, .string noText]) (w' := w1) ?_ (hK _ _ (Below.refl _ _) rfl)
      simp only [execOp, Act.eval, h1, Instr.loadAt, Instr.sureAddr, Sem.run_bind, Sem.run_pure, Result.andThen_ok]
      rw [run_loadVar_at w1 (w.heap.size) 0 41 [.string ⟨#[88]⟩, .int .i64 0, .int .i64 0, .string noText] _ ?_ Tryz.underlying41 rfl infoTm4]
      · rfl
      · intro j v hv
        refine (hlow.cell (p := ⟨w.heap.size, 0 + j, none⟩) (by rw [hsz0]; simp; try omega)).trans ?_
        match j, hv with
        | 0, hv => cases hv; exact hO1.cell 0
        | 1, hv => cases hv; exact hO1.cell 1
        | 2, hv => cases hv; exact hO1.cell 2
        | 3, hv => cases hv; exact hO1.cell 3
        | n + 4, hv => simp at hv
    | 1, _ =>
      simp only [List.getElem?_toArray, List.getElem?_cons_zero, List.getElem?_cons_succ, Option.some.injEq] at ho
      subst ho
      have h1 : a.tmps.getD 2 undef = .pointer (some ⟨w.heap.size + 1, 0, none⟩) := (hfr 2 (by decide)).trans rfl
      refine mk_val (v := .agg #[.string ⟨#[89]⟩, .int .i64 0, .int .i64 0, .string noText]) (w' := w1) ?_ (hK _ _ (Below.refl _ _) rfl)
      simp only [execOp, Act.eval, h1, Instr.loadAt, Instr.sureAddr, Sem.run_bind, Sem.run_pure, Result.andThen_ok]
      rw [run_loadVar_at w1 (w.heap.size + 1) 0 41 [.string ⟨#[89]⟩, .int .i64 0, .int .i64 0, .string noText] _ ?_ Tryz.underlying41 rfl infoTm4]
      · rfl
      · intro j v hv
        refine (hlow.cell (p := ⟨w.heap.size + 1, 0 + j, none⟩) (by rw [hsz0]; simp; try omega)).trans ?_
        match j, hv with
        | 0, hv => cases hv; exact hO2.cell 0
        | 1, hv => cases hv; exact hO2.cell 1
        | 2, hv => cases hv; exact hO2.cell 2
        | 3, hv => cases hv; exact hO2.cell 3
        | n + 4, hv => simp at hv
    | 2, _ =>
      simp only [List.getElem?_toArray, List.getElem?_cons_zero, List.getElem?_cons_succ, Option.some.injEq] at ho
      subst ho
      have h8 : a.tmps.getD 8 undef = .agg #[.string ⟨#[88]⟩, .int .i64 0, .int .i64 0, .string noText] := hdep ⟨0, .data⟩ (by simp) rfl
      have h9 : a.tmps.getD 9 undef = .agg #[.string ⟨#[89]⟩, .int .i64 0, .int .i64 0, .string noText] := hdep ⟨1, .data⟩ (by simp) rfl
      refine mk_val (v := .slice (some ⟨w1.heap.size, 0, none⟩) 2 2) (w' := w1.alloc (.cells #[.string ⟨#[88]⟩, .int .i64 0, .int .i64 0, .string noText, .string ⟨#[89]⟩, .int .i64 0, .int .i64 0, .string noText] 41)) ?_ (hK _ _ ((Below.refl _ _).alloc (Nat.le_refl _) _) ⟨_, rfl, tm_row2 okX okY _⟩)
      simp only [execOp, Act.eval, List.map_toArray, List.map_cons, List.map_nil, h8, h9]
      kernel_rfl
    | 3, _ =>
      simp only [List.getElem?_toArray, List.getElem?_cons_zero, List.getElem?_cons_succ, Option.some.injEq] at ho
      subst ho
      obtain ⟨b, h10, hr⟩ : ∃ b, a.tmps.getD 10 undef = .slice (some ⟨b, 0, none⟩) 2 2 ∧ Rg 4 TmC w1 (some ⟨b, 0, none⟩) [tX, tY] := hdep ⟨2, .data⟩ (by simp) rfl
      refine mk_val (v := .agg #[.string ⟨#[112]⟩, .slice (some ⟨b, 0, none⟩) 2 2]) (w' := w1) ?_ (hK _ _ (Below.refl _ _) ⟨b, rfl, hr⟩)
      simp only [execOp, Act.eval, List.map_toArray, List.map_cons, List.map_nil, h10]
      kernel_rfl
    | 4, _ =>
      simp only [List.getElem?_toArray, List.getElem?_cons_zero, List.getElem?_cons_succ, Option.some.injEq] at ho
      subst ho
      have h1 : a.tmps.getD 2 undef = .pointer (some ⟨w.heap.size + 1, 0, none⟩) := (hfr 2 (by decide)).trans rfl
      refine mk_val (v := .agg #[.string ⟨#[89]⟩, .int .i64 0, .int .i64 0, .string noText]) (w' := w1) ?_ (hK _ _ (Below.refl _ _) rfl)
      simp only [execOp, Act.eval, h1, Instr.loadAt, Instr.sureAddr, Sem.run_bind, Sem.run_pure, Result.andThen_ok]
      rw [run_loadVar_at w1 (w.heap.size + 1) 0 41 [.string ⟨#[89]⟩, .int .i64 0, .int .i64 0, .string noText] _ ?_ Tryz.underlying41 rfl infoTm4]
      · rfl
      · intro j v hv
        refine (hlow.cell (p := ⟨w.heap.size + 1, 0 + j, none⟩) (by rw [hsz0]; simp; try omega)).trans ?_
        match j, hv with
        | 0, hv => cases hv; exact hO2.cell 0
        | 1, hv => cases hv; exact hO2.cell 1
        | 2, hv => cases hv; exact hO2.cell 2
        | 3, hv => cases hv; exact hO2.cell 3
        | n + 4, hv => simp at hv
    | 5, _ =>
      simp only [List.getElem?_toArray, List.getElem?_cons_zero, List.getElem?_cons_succ, Option.some.injEq] at ho
      subst ho
      have h1 : a.tmps.getD 3 undef = .pointer (some ⟨w.heap.size + 1 + 1, 0, none⟩) := (hfr 3 (by decide)).trans rfl
      refine mk_val (v := .agg #[.string ⟨#[90]⟩, .int .i64 0, .int .i64 0, .string noText]) (w' := w1) ?_ (hK _ _ (Below.refl _ _) rfl)
      simp only [execOp, Act.eval, h1, Instr.loadAt, Instr.sureAddr, Sem.run_bind, Sem.run_pure, Result.andThen_ok]
      rw [run_loadVar_at w1 (w.heap.size + 1 + 1) 0 41 [.string ⟨#[90]⟩, .int .i64 0, .int .i64 0, .string noText] _ ?_ Tryz.underlying41 rfl infoTm4]
      · rfl
      · intro j v hv
        refine (hlow.cell (p := ⟨w.heap.size + 1 + 1, 0 + j, none⟩) (by rw [hsz0]; simp; try omega)).trans ?_
        match j, hv with
        | 0, hv => cases hv; exact hO3.cell 0
        | 1, hv => cases hv; exact hO3.cell 1
        | 2, hv => cases hv; exact hO3.cell 2
        | 3, hv => cases hv; exact hO3.cell 3
        | n + 4, hv => simp at hv
    | 6, _ =>
      simp only [List.getElem?_toArray, List.getElem?_cons_zero, List.getElem?_cons_succ, Option.some.injEq] at ho
      subst ho
      have h8 : a.tmps.getD 12 undef = .agg #[.string ⟨#[89]⟩, .int .i64 0, .int .i64 0, .string noText] := hdep ⟨4, .data⟩ (by simp) rfl
      have h9 : a.tmps.getD 13 undef = .agg #[.string ⟨#[90]⟩, .int .i64 0, .int .i64 0, .string noText] := hdep ⟨5, .data⟩ (by simp) rfl
      refine mk_val (v := .slice (some ⟨w1.heap.size, 0, none⟩) 2 2) (w' := w1.alloc (.cells #[.string ⟨#[89]⟩, .int .i64 0, .int .i64 0, .string noText, .string ⟨#[90]⟩, .int .i64 0, .int .i64 0, .string noText] 41)) ?_ (hK _ _ ((Below.refl _ _).alloc (Nat.le_refl _) _) ⟨_, rfl, tm_row2 okY okZ _⟩)
      simp only [execOp, Act.eval, List.map_toArray, List.map_cons, List.map_nil, h8, h9]
      kernel_rfl
    | 7, _ =>
      simp only [List.getElem?_toArray, List.getElem?_cons_zero, List.getElem?_cons_succ, Option.some.injEq] at ho
      subst ho
      obtain ⟨b, h10, hr⟩ : ∃ b, a.tmps.getD 14 undef = .slice (some ⟨b, 0, none⟩) 2 2 ∧ Rg 4 TmC w1 (some ⟨b, 0, none⟩) [tY, tZ] := hdep ⟨6, .data⟩ (by simp) rfl
      refine mk_val (v := .agg #[.string ⟨#[113]⟩, .slice (some ⟨b, 0, none⟩) 2 2]) (w' := w1) ?_ (hK _ _ (Below.refl _ _) ⟨b, rfl, hr⟩)
      simp only [execOp, Act.eval, List.map_toArray, List.map_cons, List.map_nil, h10]
      kernel_rfl
    | 8, _ =>
      simp only [List.getElem?_toArray, List.getElem?_cons_zero, List.getElem?_cons_succ, Option.some.injEq] at ho
      subst ho
      obtain ⟨b, h10, hr⟩ : ∃ b, a.tmps.getD 15 undef = .agg #[.string ⟨#[113]⟩, .slice (some ⟨b, 0, none⟩) 2 2] ∧ Rg 4 TmC w1 (some ⟨b, 0, none⟩) [tY, tZ] := hdep ⟨7, .data⟩ (by simp) rfl
      refine mk_val (v := .agg #[.int .i64 1, .string ⟨#[113]⟩, .slice (some ⟨b, 0, none⟩) 2 2, .int .i64 0, .int .i64 0, .string noText, .int .i64 0, .int .i64 0, .string noText, .slice none 0 0, .int .i64 0, .string noText, .int .i64 0, .int .i64 0, .string noText, .slice none 0 0, .int .i64 0]) (w' := w1) ?_ (hK _ _ (Below.refl _ _) ⟨b, rfl, hr⟩)
      simp only [execOp, Act.eval, List.map_toArray, List.map_cons, List.map_nil, h10]
      kernel_rfl
    | 9, _ =>
      simp only [List.getElem?_toArray, List.getElem?_cons_zero, List.getElem?_cons_succ, Option.some.injEq] at ho
      subst ho
      refine mk_call (f := 11) (args := #[.string ⟨#[88]⟩]) ?_ ((v_any _ _).mono ?_)
      · simp only [execOp, Act.eval, List.map_toArray, List.map_cons, List.map_nil]
        kernel_rfl
      · rintro e w' ⟨rfl, rfl⟩
        exact ⟨_, rfl, hK _ _ ((Below.refl _ _).alloc (Nat.le_refl _) _) rfl⟩
    | 10, _ =>
      simp only [List.getElem?_toArray, List.getElem?_cons_zero, List.getElem?_cons_succ, Option.some.injEq] at ho
      subst ho
      refine mk_call (f := 11) (args := #[.string ⟨#[90]⟩]) ?_ ((v_any _ _).mono ?_)
      · simp only [execOp, Act.eval, List.map_toArray, List.map_cons, List.map_nil]
        kernel_rfl
      · rintro e w' ⟨rfl, rfl⟩
        exact ⟨_, rfl, hK _ _ ((Below.refl _ _).alloc (Nat.le_refl _) _) rfl⟩
    | 11, _ =>
      simp only [List.getElem?_toArray, List.getElem?_cons_zero, List.getElem?_cons_succ, Option.some.injEq] at ho
      subst ho
      have h8 : a.tmps.getD 17 undef = .agg #[.int .i64 0, .string ⟨#[88]⟩, .int .i64 0, .int .i64 0, .string noText, .slice none 0 0] := hdep ⟨9, .data⟩ (by simp) rfl
      have h9 : a.tmps.getD 18 undef = .agg #[.int .i64 0, .string ⟨#[90]⟩, .int .i64 0, .int .i64 0, .string noText, .slice none 0 0] := hdep ⟨10, .data⟩ (by simp) rfl
      refine mk_val (v := .agg #[.int .i64 3, .string noText, .slice none 0 0, .int .i64 1, .int .i64 0, .string ⟨#[88]⟩, .int .i64 0, .int .i64 0, .string noText, .slice none 0 0, .int .i64 0, .string ⟨#[90]⟩, .int .i64 0, .int .i64 0, .string noText, .slice none 0 0, .int .i64 0]) (w' := w1) ?_ (hK _ _ (Below.refl _ _) rfl)
      simp only [execOp, Act.eval, List.map_toArray, List.map_cons, List.map_nil, h8, h9]
      kernel_rfl
    | 12, _ =>
      simp only [List.getElem?_toArray, List.getElem?_cons_zero, List.getElem?_cons_succ, Option.some.injEq] at ho
      subst ho
      obtain ⟨b, h10, hr⟩ : ∃ b, a.tmps.getD 16 undef = .agg #[.int .i64 1, .string ⟨#[113]⟩, .slice (some ⟨b, 0, none⟩) 2 2, .int .i64 0, .int .i64 0, .string noText, .int .i64 0, .int .i64 0, .string noText, .slice none 0 0, .int .i64 0, .string noText, .int .i64 0, .int .i64 0, .string noText, .slice none 0 0, .int .i64 0] ∧ Rg 4 TmC w1 (some ⟨b, 0, none⟩) [tY, tZ] := hdep ⟨8, .data⟩ (by simp) rfl
      have h11 : a.tmps.getD 19 undef = .agg #[.int .i64 3, .string noText, .slice none 0 0, .int .i64 1, .int .i64 0, .string ⟨#[88]⟩, .int .i64 0, .int .i64 0, .string noText, .slice none 0 0, .int .i64 0, .string ⟨#[90]⟩, .int .i64 0, .int .i64 0, .string noText, .slice none 0 0, .int .i64 0] := hdep ⟨11, .data⟩ (by simp) rfl
      refine mk_val (v := .slice (some ⟨w1.heap.size, 0, none⟩) 2 2) (w' := w1.alloc (.cells #[.int .i64 1, .string ⟨#[113]⟩, .slice (some ⟨b, 0, none⟩) 2 2, .int .i64 0, .int .i64 0, .string noText, .int .i64 0, .int .i64 0, .string noText, .slice none 0 0, .int .i64 0, .string noText, .int .i64 0, .int .i64 0, .string noText, .slice none 0 0, .int .i64 0, .int .i64 3, .string noText, .slice none 0 0, .int .i64 1, .int .i64 0, .string ⟨#[88]⟩, .int .i64 0, .int .i64 0, .string noText, .slice none 0 0, .int .i64 0, .string ⟨#[90]⟩, .int .i64 0, .int .i64 0, .string noText, .slice none 0 0, .int .i64 0] 50)) ?_ (hK _ _ ((Below.refl _ _).alloc (Nat.le_refl _) _) ⟨_, rfl, lt_row2 hr⟩)
      simp only [execOp, Act.eval, List.map_toArray, List.map_cons, List.map_nil, h10, h11]
      kernel_rfl
    | 13, _ =>
      simp only [List.getElem?_toArray, List.getElem?_cons_zero, List.getElem?_cons_succ, Option.some.injEq] at ho
      subst ho
      obtain ⟨b, h10, hr⟩ : ∃ b, a.tmps.getD 11 undef = .agg #[.string ⟨#[112]⟩, .slice (some ⟨b, 0, none⟩) 2 2] ∧ Rg 4 TmC w1 (some ⟨b, 0, none⟩) [tX, tY] := hdep ⟨3, .data⟩ (by simp) rfl
      obtain ⟨g, h11, hr2⟩ : ∃ b, a.tmps.getD 20 undef = .slice (some ⟨b, 0, none⟩) 2 2 ∧ Rg 17 LtC w1 (some ⟨b, 0, none⟩) [lt1, lt2] := hdep ⟨12, .data⟩ (by simp) rfl
      refine mk_val (v := .agg #[.string ⟨#[112]⟩, .slice (some ⟨b, 0, none⟩) 2 2, .int .i64 0, .int .i64 0, .slice (some ⟨g, 0, none⟩) 2 2, .int .i64 0]) (w' := w1) ?_ (hK _ _ (Below.refl _ _) ⟨b, g, rfl, ⟨by decide, hr⟩, hr2⟩)
      simp only [execOp, Act.eval, List.map_toArray, List.map_cons, List.map_nil, h10, h11]
      kernel_rfl
    | 14, _ =>
      simp only [List.getElem?_toArray, List.getElem?_cons_zero, List.getElem?_cons_succ, Option.some.injEq] at ho
      subst ho
      refine mk_val (v := .pointer (some ⟨w1.heap.size, 0, none⟩)) (w' := w1.alloc (.cells #[.string noText, .slice none 0 0, .int .i64 0, .int .i64 0, .slice none 0 0, .int .i64 0] 54)) ?_ (hK _ _ ((Below.refl _ _).alloc (Nat.le_refl _) _) ⟨_, rfl, heap_alloc_new _ _, hlow0⟩)
      simp only [execOp, Act.eval, List.map_toArray, List.map_cons, List.map_nil, Nat.add_zero]
      kernel_rfl
    | n + 15, h => omega
  case hfin =>
    intro o ho a w1 hdf hsz hfr hlow hall
    simp only [List.getElem?_toArray, List.getElem?_cons_zero, List.getElem?_cons_succ, Option.some.injEq] at ho
    subst ho
    obtain ⟨b, g, h13, hV⟩ : ∃ b g, a.tmps.getD 21 undef = .agg #[.string ⟨#[112]⟩, .slice (some ⟨b, 0, none⟩) 2 2, .int .i64 0, .int .i64 0, .slice (some ⟨g, 0, none⟩) 2 2, .int .i64 0] ∧ RuV w1 ru0 (some ⟨b, 0, none⟩) (some ⟨g, 0, none⟩) := hall 13 (by decide)
    obtain ⟨b4, h14, hO4, hb4⟩ : ∃ b, a.tmps.getD 4 undef = .pointer (some ⟨b, 0, none⟩) ∧ Own w1 b 54 [.string noText, .slice none 0 0, .int .i64 0, .int .i64 0, .slice none 0 0, .int .i64 0] ∧ w.heap.size ≤ b := hall 14 (by decide)
    have hone : (#[.string ⟨#[112]⟩, .slice (some ⟨b, 0, none⟩) 2 2, .int .i64 0, .int .i64 0, .slice (some ⟨g, 0, none⟩) 2 2, .int .i64 0] : Array Value).all (·.oneCell') = true := by simp [Value.oneCell']
    refine wp_store_row 54 (.tmp 4) (.tmp 21) rfl b4 #[.string ⟨#[112]⟩, .slice (some ⟨b, 0, none⟩) 2 2, .int .i64 0, .int .i64 0, .slice (some ⟨g, 0, none⟩) 2 2, .int .i64 0] h14 h13 54 #[.string noText, .slice none 0 0, .int .i64 0, .int .i64 0, .slice none 0 0, .int .i64 0] hO4 infoRu rfl hone ?_
    have hsw : w.heap.size ≤ w1.heap.size := Nat.le_trans (by rw [HO.out.2.2.2]; omega) hlow.size
    have hlow1 : Below w.heap.size w w1 := ((((Below.refl w.heap.size w).alloc (Nat.le_refl _) _).alloc (by simp) _).alloc (by simp; omega) _).trans (hlow.mono (by rw [HO.out.2.2.2]; omega))
    have hX : ∀ k i v, k ≠ b4 → w1.cell? ⟨k, i, none⟩ = some v → (w1.setRow b4 #[.string ⟨#[112]⟩, .slice (some ⟨b, 0, none⟩) 2 2, .int .i64 0, .int .i64 0, .slice (some ⟨g, 0, none⟩) 2 2, .int .i64 0]).cell? ⟨k, i, none⟩ = some v := fun k i v hb h => (cell_setRow_other w1 b4 _ ⟨k, i, none⟩ hb).trans h
    have HV2 := Lib.hid (ru_off hO4 (Nat.le_of_eq (setRow_size _ _ _).symm) hX hV)
    have HO2 : Hid (Own (w1.setRow b4 #[.string ⟨#[112]⟩, .slice (some ⟨b, 0, none⟩) 2 2, .int .i64 0, .int .i64 0, .slice (some ⟨g, 0, none⟩) 2 2, .int .i64 0]) b4 54 [.string ⟨#[112]⟩, .slice (some ⟨b, 0, none⟩) 2 2, .int .i64 0, .int .i64 0, .slice (some ⟨g, 0, none⟩) 2 2, .int .i64 0]) := setRow_heap w1 b4 _ _ _ _ hO4
    have HB2 : Hid (Below w.heap.size w (w1.setRow b4 #[.string ⟨#[112]⟩, .slice (some ⟨b, 0, none⟩) 2 2, .int .i64 0, .int .i64 0, .slice (some ⟨g, 0, none⟩) 2 2, .int .i64 0])) := ⟨hlow1.os, hlow1.tape, hlow1.output, by simpa using hlow1.size, fun k hk => (setRow_other w1 b4 k _ (by omega)).trans (hlow1.block k hk)⟩
    generalize w1.setRow b4 #[.string ⟨#[112]⟩, .slice (some ⟨b, 0, none⟩) 2 2, .int .i64 0, .int .i64 0, .slice (some ⟨g, 0, none⟩) 2 2, .int .i64 0] = W2 at HV2 HO2 HB2 ⊢
    refine hK1 _ _ ?_
    clear hK1 hX hV hO4 hlow1 hlow hall hone hfr h13 HO
    obtain ⟨⟨l⟩, df⟩ := a
    simp only [Act.put] at hdf hsz h14 ⊢
    subst hdf
    change l.length = 37 at hsz
    obtain ⟨t0, l0, rfl, hz0⟩ := cons_of hsz
    obtain ⟨t1, l1, rfl, hz1⟩ := cons_of hz0
    obtain ⟨t2, l2, rfl, hz2⟩ := cons_of hz1
    obtain ⟨t3, l3, rfl, hz3⟩ := cons_of hz2
    obtain ⟨t4, l4, rfl, hz4⟩ := cons_of hz3
    obtain ⟨t5, l5, rfl, hz5⟩ := cons_of hz4
    obtain ⟨t6, l6, rfl, hz6⟩ := cons_of hz5
    obtain ⟨t7, l7, rfl, hz7⟩ := cons_of hz6
    obtain ⟨t8, l8, rfl, hz8⟩ := cons_of hz7
    obtain ⟨t9, l9, rfl, hz9⟩ := cons_of hz8
    obtain ⟨t10, l10, rfl, hz10⟩ := cons_of hz9
    obtain ⟨t11, l11, rfl, hz11⟩ := cons_of hz10
    obtain ⟨t12, l12, rfl, hz12⟩ := cons_of hz11
    obtain ⟨t13, l13, rfl, hz13⟩ := cons_of hz12
    obtain ⟨t14, l14, rfl, hz14⟩ := cons_of hz13
    obtain ⟨t15, l15, rfl, hz15⟩ := cons_of hz14
    obtain ⟨t16, l16, rfl, hz16⟩ := cons_of hz15
    obtain ⟨t17, l17, rfl, hz17⟩ := cons_of hz16
    obtain ⟨t18, l18, rfl, hz18⟩ := cons_of hz17
    obtain ⟨t19, l19, rfl, hz19⟩ := cons_of hz18
    obtain ⟨t20, l20, rfl, hz20⟩ := cons_of hz19
    obtain ⟨t21, l21, rfl, hz21⟩ := cons_of hz20
    obtain ⟨t22, l22, rfl, hz22⟩ := cons_of hz21
    obtain ⟨t23, l23, rfl, hz23⟩ := cons_of hz22
    obtain ⟨t24, l24, rfl, hz24⟩ := cons_of hz23
    obtain ⟨t25, l25, rfl, hz25⟩ := cons_of hz24
    obtain ⟨t26, l26, rfl, hz26⟩ := cons_of hz25
    obtain ⟨t27, l27, rfl, hz27⟩ := cons_of hz26
    obtain ⟨t28, l28, rfl, hz28⟩ := cons_of hz27
    obtain ⟨t29, l29, rfl, hz29⟩ := cons_of hz28
    obtain ⟨t30, l30, rfl, hz30⟩ := cons_of hz29
    obtain ⟨t31, l31, rfl, hz31⟩ := cons_of hz30
    obtain ⟨t32, l32, rfl, hz32⟩ := cons_of hz31
    obtain ⟨t33, l33, rfl, hz33⟩ := cons_of hz32
    obtain ⟨t34, l34, rfl, hz34⟩ := cons_of hz33
    obtain ⟨t35, l35, rfl, hz35⟩ := cons_of hz34
    obtain ⟨t36, l36, rfl, hz36⟩ := cons_of hz35
    obtain rfl : l36 = [] := List.eq_nil_of_length_eq_zero hz36
    have h14' : t4 = .pointer (some ⟨b4, 0, none⟩) := h14
    clear h14
    subst h14'
    clear hsz hz0 hz1 hz2 hz3 hz4 hz5 hz6 hz7 hz8 hz9 hz10 hz11 hz12 hz13 hz14 hz15 hz16 hz17 hz18 hz19 hz20 hz21 hz22 hz23 hz24 hz25 hz26 hz27 hz28 hz29 hz30 hz31 hz32 hz33 hz34 hz35 hz36
    have c0 := HO2.out.cell 0
    have c1 := HO2.out.cell 1
    have c2 := HO2.out.cell 2
    have c3 := HO2.out.cell 3
    have c4 := HO2.out.cell 4
    have c5 := HO2.out.cell 5
    simp only [List.getElem?_cons_zero, List.getElem?_cons_succ] at c0 c1 c2 c3 c4 c5
    have CV := Lib.hid (Vars_any ru0 (some ⟨b, 0, none⟩) 2 (some ⟨g, 0, none⟩) 2 W2 HV2.out (by decide))
    rw [ru0_names] at CV
    go_wp2_with fail
    refine CV.out.mono ?_
    rintro e w3 ⟨T, tc, rfl, ho3, hn3, hb3⟩
    have HB3 : Hid (Below w.heap.size w w3) := HB2.out.trans (hb3.mono HB2.out.size)
    have HV3 := Lib.hid (HV2.out.below hb3)
    have HO3 := Lib.hid (HO2.out.below hb3)
    have hbx : Below w3.heap.size w3 (w3.alloc (.cells #[.string ⟨#[88]⟩, .string ⟨#[89]⟩, .string ⟨#[90]⟩] 9)) := (Below.refl _ _).alloc (Nat.le_refl _) _
    have hox : Own (w3.alloc (.cells #[.string ⟨#[88]⟩, .string ⟨#[89]⟩, .string ⟨#[90]⟩] 9)) w3.heap.size 9 [.string ⟨#[88]⟩, .string ⟨#[89]⟩, .string ⟨#[90]⟩] := heap_alloc_new _ _
    have hr2 : TxRow (w3.alloc (.cells #[.string ⟨#[88]⟩, .string ⟨#[89]⟩, .string ⟨#[90]⟩] 9)) (some ⟨w3.heap.size, 0, none⟩) [⟨#[88]⟩, ⟨#[89]⟩, ⟨#[90]⟩] := fun _ => ⟨w3.heap.size, 0, rfl, by simp, fun i x hx => by
      match i, hx with
      | 0, hx => cases hx; exact hox.cell 0
      | 1, hx => cases hx; exact hox.cell 1
      | 2, hx => cases hx; exact hox.cell 2
      | n + 3, hx => simp at hx⟩
    have CT := Lib.hid (Texts_same T (some ⟨w3.heap.size, 0, none⟩) tc 3 [⟨#[88]⟩, ⟨#[89]⟩, ⟨#[90]⟩] _ (by simp) ((TxRow.own ho3).pers (.of hbx)) hr2)
    have HB4 : Hid (Below w.heap.size w (w3.alloc (.cells #[.string ⟨#[88]⟩, .string ⟨#[89]⟩, .string ⟨#[90]⟩] 9))) := HB3.out.trans (hbx.mono HB3.out.size)
    have HV4 := Lib.hid (HV3.out.below hbx)
    have HO4 := Lib.hid (HO3.out.below hbx)
    clear ho3 hn3 hb3 hox hr2 c0 c1 c2 c3 c4 c5 CV hbx
    go_wp2_with fail
    refine CT.out.mono ?_
    rintro e w5 ⟨rfl, hb5⟩
    have HB5 : Hid (Below w.heap.size w w5) := HB4.out.trans (hb5.mono HB4.out.size)
    have HO5 := Lib.hid (HO4.out.below hb5)
    have CR := Lib.hid (RightRule_is ru0 (some ⟨b, 0, none⟩) 2 (some ⟨g, 0, none⟩) 2 true w5 ru0_right (HV4.out.below hb5) (HL.out.below HB5.out))
    have c0 := HO5.out.cell 0
    have c1 := HO5.out.cell 1
    have c2 := HO5.out.cell 2
    have c3 := HO5.out.cell 3
    have c4 := HO5.out.cell 4
    have c5 := HO5.out.cell 5
    simp only [List.getElem?_cons_zero, List.getElem?_cons_succ] at c0 c1 c2 c3 c4 c5
    clear hb5 CT
    go_wp2_with fail
    refine CR.out.mono ?_
    rintro e w6 ⟨rfl, hb6⟩
    have HB6 : Hid (Below w.heap.size w w6) := HB5.out.trans (hb6.mono HB5.out.size)
    have CX := Lib.hid (Variable_is ⟨#[88]⟩ true w6 var_X (by decide) (HL.out.below HB6.out))
    clear hb6 CR c0 c1 c2 c3 c4 c5
    go_wp2_with fail
    refine CX.out.mono ?_
    rintro e w7 ⟨rfl, hb7⟩
    have HB7 : Hid (Below w.heap.size w w7) := HB6.out.trans (hb7.mono HB6.out.size)
    have CY := Lib.hid (Variable_is ⟨#[120]⟩ false w7 var_x (by decide) (HL.out.below HB7.out))
    clear hb7 CX
    go_wp2_with fail
    refine CY.out.mono ?_
    rintro e w8 ⟨rfl, hb8⟩
    have HB8 : Hid (Below w.heap.size w w8) := HB7.out.trans (hb8.mono HB7.out.size)
    clear hb8 CY
    go_wp2_with fail
    go_ret
    exact ⟨rfl, HB8.out⟩
end Go.Proofs.YtlfakhjcpdkaiaaGreatDoor
