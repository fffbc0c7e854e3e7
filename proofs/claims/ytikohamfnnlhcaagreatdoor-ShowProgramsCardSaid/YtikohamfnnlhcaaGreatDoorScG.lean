/- A table of texts that is laid reads, cell for cell, as its texts; what the rows' laid variables come to. Conditions: none. A law's end, once for all laws of this seat: a call that returns true and lays nothing but new blocks meets 'true; each argument reads as it did'. Conditions: none. What came in: a program, an expression, read as data. Conditions: the form's reach. The tables of package show that are laid read, cell for cell, as they should; a rule, a literal that came in, read as data. Conditions: the form's reach. ShowPrograms' row: the tables of package show that are laid. Conditions: none. -/
import Derived.Test.YtikohamfnnlhcaaGreatDoorRows
import Derived.Test.YtikohamfnnlhcaaGreatDoorScC
import Derived.Lib.LaidTab
import Derived.Stop.LaidErr
import Derived.LaidMore
import Derived.WalkKit
import Derived.ProofKit
import Derived.OpenShut
import Derived.Carry
import Derived.Lib.SmallJoins
import Derived.Test.YtikohamfnnlhcaaGreatDoorPcTermB
import Derived.Deep.Slices
import Derived.SizedLaws
import Derived.Test.YtikohamfnnlhcaaGreatDoorPcShoB
namespace Go.Proofs.YtikohamfnnlhcaaGreatDoor
open Go.Lib Go.RowKit

def strData {H : Type} (ls : List (List UInt8)) : DataW H := .agg (ls.map fun l => .lit (.string l))
theorem cells_of_strs {H : Type} {enc : TypeId × Value → H} {P : Program} {w : World} {base : Nat} {sp : Nat → Bool} {held : Bool} {fuel : Nat} {t e : TypeId} {n : Nat} {cs : List Value} {ls : List (List UInt8)} {p : List MemPlace}
    (ht : P.underlying t = some (.array n e)) (he : P.underlying e = some .string) (hce : P.cellsOf e = 1) (hct : P.cellsOf t = n)
    (h : DataW.trod enc P w base sp held fuel t cs = some (strData ls, p)) : cs = ls.map fun l => Value.string (bts l) := by
  cases fuel with
  | zero => simp [DataW.trod] at h
  | succ fuel =>
    simp only [DataW.trod, ht, hce, hct, Nat.mul_one] at h
    split at h
    · rename_i hl
      obtain ⟨xs, hm, hx⟩ := Option.map_eq_some_iff.1 h
      have hxs : xs.map (·.1) = ls.map fun l => (DataW.lit (.string l) : DataW H) := by
        have := congrArg Prod.fst hx
        simpa [strData] using this
      have hxl : xs.length = n := by simpa using mapM_length hm
      have hzl : ls.length = n := by
        have := congrArg List.length hxs
        simp at this
        omega
      apply List.ext_getElem?
      intro i
      by_cases hi : i < n
      · obtain ⟨b, hb, hf⟩ := mapM_at hm i i (by simp [hi])
        obtain ⟨s, hc, rfl, _⟩ := DataW.trod_string he hf
        have h1 : cs[i]? = some (.string s) := by
          have := congrArg (·[0]?) hc
          simpa [List.getElem?_take, List.getElem?_drop] using this
        have h2 : (xs.map (·.1))[i]? = some (DataW.lit (.string s.data.toList) : DataW H) := by simp [hb]
        rw [hxs] at h2
        simp only [List.getElem?_map, Option.map_eq_some_iff, DataW.lit.injEq, Lit.string.injEq] at h2
        obtain ⟨l, hl', e1⟩ := h2
        have e2 : bts l = s := by rw [e1]
        simp [h1, hl', e2]
      · rw [List.getElem?_eq_none (by omega), List.getElem?_eq_none (by simp; omega)]
    · cases h
theorem strs_of_head {P : Program} {W : World} {name : String} {ls : List (List UInt8)} {rest : List (String × DataW Unit)} {g : Nat} {t e : TypeId} {n : Nat}
    (hg : P.globalNamed name = some g) (hty : (P.globals[g]?).map (·.type) = some t) (ht : P.underlying t = some (.array n e)) (he : P.underlying e = some .string) (hce : P.cellsOf e = 1) (hct : P.cellsOf t = n)
    (h : laidMet P ((name, strData ls) :: rest) W) : ∀ (j : Nat) x, ls[j]? = some x → W.cell? ⟨g, j, none⟩ = some (.string (bts x)) := by
  obtain ⟨ps, ⟨g', t', cs, fuel, p, q, hg', ht', hvar, hd, _, _⟩, _⟩ := h
  obtain rfl := Option.some.inj (hg.symm.trans hg')
  obtain rfl := Option.some.inj (hty.symm.trans ht')
  intro j x hx
  have hc := World.var?_cell hg hvar j
  rw [hc]
  have := cells_of_strs ht he hce hct hd
  rw [← Array.getElem?_toList, this]
  simp [hx]

theorem gTabType : (Tryz.prog.globals[8]?).map (·.type) = some 260 := by kernel_rfl
theorem cellsT : Tryz.prog.cellsOf 260 = 20 := by kernel_rfl
theorem cellsE : Tryz.prog.cellsOf 248 = 1 := by kernel_rfl
theorem star : "*" ++ "errors.errorString" = "*errors.errorString" := by decide
theorem rowErr (u : TypeId) (h : Tryz.prog.typeName? 3 u = some "*errors.errorString") : u = 281 :=
  typeName_ptr_named (nm := "errors.errorString") (by rw [star]; kernel_rfl) (by kernel_rfl) (by decide) u (by rw [star]; exact h)
theorem gSynType : (Tryz.prog.globals[11]?).map (·.type) = some 41 := by kernel_rfl
theorem gRngType : (Tryz.prog.globals[12]?).map (·.type) = some 41 := by kernel_rfl
theorem cellsErr : Tryz.prog.cellsOf 283 = 1 := by kernel_rfl
theorem cellsStr : Tryz.prog.cellsOf 9 = 1 := by kernel_rfl
theorem gKeys : Tryz.prog.globalNamed "corollary/lex.keys" = some 6 := by kernel_rfl
theorem gSigns : Tryz.prog.globalNamed "corollary/lex.signs" = some 5 := by kernel_rfl
theorem gKeysType : (Tryz.prog.globals[6]?).map (·.type) = some 253 := by kernel_rfl
theorem gSignsType : (Tryz.prog.globals[5]?).map (·.type) = some 241 := by kernel_rfl
theorem cellsK : Tryz.prog.cellsOf 253 = 8 := by kernel_rfl
theorem cellsS : Tryz.prog.cellsOf 241 = 14 := by kernel_rfl
/-- the rows' laid variables, as the walks take them. -/
theorem lays {W : World} (h : laidMetH Tryz.prog Rows.showPartsRow.laid W) : Lays W := by
  have h2 := laidMet.tail (laidMet.tail h)
  have h3 := laidMet.tail h2
  have h5 := laidMet.tail (laidMet.tail h3)
  have h6 := laidMet.tail h5
  obtain ⟨a0, _, v0, _⟩ := laid_sentinel h3 gRng gRngType Tryz.underlying41 rowErr Tryz.underlying281 Tryz.underlying283 rfl rfl Tryz.underlying9 cellsErr cellsStr
  obtain ⟨a1, _, v1, _⟩ := laid_sentinel (laidMet.tail h3) gSyn gSynType Tryz.underlying41 rowErr Tryz.underlying281 Tryz.underlying283 rfl rfl Tryz.underlying9 cellsErr cellsStr
  exact ⟨strs_of_head (ls := keysL) (rest := _) gKeys gKeysType Tryz.underlying253 Tryz.underlying9 cellsStr cellsK h5, strs_of_head (ls := signsL) (rest := _) gSigns gSignsType Tryz.underlying241 Tryz.underlying9 cellsStr cellsS h6,
    Lib.tabIs_of_head (rest := _) gPow gTabType Tryz.underlying260 Tryz.underlying248 cellsE cellsT h2, ⟨_, _, v1⟩, ⟨_, _, v0⟩⟩
end Go.Proofs.YtikohamfnnlhcaaGreatDoor

namespace Go.Proofs.YtikohamfnnlhcaaGreatDoor
open Go.ChangeShapes Go.WideShapes Go.ChangeAt Go.RowKit Go.Joins

theorem trodAll_below {H : Type} {enc : TypeId × Value → H} {P : Program} (hl : laidOutB P = true) {W W' : World} (hb : Below W.heap.size W W') :
    ∀ {ts : List TypeId} {vs : List Value} {ds : List (DataW H)} {ps : List MemPlace}, (ts.all fun t => P.readableRec t && decide (t < P.types.size)) = true →
      DataW.TrodAll enc P W 0 (fun _ => true) true ts vs ds ps → (∀ x ∈ ps, x.block < W.heap.size) → DataW.TrodAll enc P W' 0 (fun b => decide (b < W.heap.size)) true ts vs ds ps
  | [], vs, ds, ps, _, h, _ => by
    obtain ⟨rfl, rfl, rfl⟩ := trodAll_nil h
    exact trodAll_mk0
  | t :: ts, vs, ds, ps, ht, h, hp => by
    simp only [List.all_cons, Bool.and_eq_true, decide_eq_true_eq] at ht
    obtain ⟨v, vs', d, ds', p, p', rfl, rfl, rfl, h0, hr⟩ := trodAll_cons h
    exact trodAll_cons_mk (Below.trod hl ht.1.1 ht.1.2 h0 hb fun x hx => hp x (by simp [hx])) (trodAll_below hl hb (by simpa using ht.2) hr fun x hx => hp x (by simp [hx]))

theorem law_post {H : Type} {enc : TypeId × Value → H} {P : Program} {f : Func} {s : ChangeSpec} {W W' : World} {args : Array Value} {ds : List (DataW H)} {before : List MemPlace} {tb : TypeId}
    (hl : laidOutB P = true) (ht : (f.params.toList.all fun t => P.readableRec t && decide (t < P.types.size)) = true) (hr : f.resultTypes = #[tb]) (hu : P.underlying tb = some .bool) (hvs : s.vars = [])
    (hs : s.fn H (ds ++ []) = { results := [.lit (.bool true)], args := ds })
    (hW : DataW.Whole enc P f.params.toList s.vars false W args.toList ds [] before) (hb : Below W.heap.size W W') : s.post enc P f false true false false W args (.bool true) W' := by
  have hW' := hW
  have hlt := hW.lt
  obtain ⟨p, q, hA, hV, hpq, hfz, hnd⟩ := hW
  rw [hvs] at hV
  obtain ⟨_, rfl⟩ := trodVars_none hV
  refine ⟨ds, [], before, [], p, [], hW', ?_, ?_, ?_, hb.frame _, fun h => by cases h⟩
  · rw [hs, hr]
    exact trodAll_cons_mk (shut_bool hu _) trodAll_mk0
  · rw [hs]
    exact trodAll_below hl hb ht hA fun x hx => hlt x (by rw [hpq]; simp [hx])
  · rw [hs, hvs]
    rfl

end Go.Proofs.YtikohamfnnlhcaaGreatDoor

set_option linter.unusedVariables false
set_option linter.unusedSimpArgs false
set_option maxRecDepth 100000
namespace Go.Proofs.YtikohamfnnlhcaaGreatDoor
open Go.ChangeShapes Go.WideShapes Go.ChangeAt Go.RowKit Go.Joins Go.Deep

theorem weights_all {H : Type} {P : Program} {e : TypeId} {d : DataW H} {n : Nat} : ∀ {ds : List (DataW H)}, d ∈ ds → n ∈ d.weights P e → n ∈ DataW.weightsAll P e ds
  | x :: r, hd, hn => by
    simp only [DataW.weightsAll, List.mem_append]
    rcases List.mem_cons.1 hd with rfl | hd
    · exact .inl hn
    · exact .inr (weights_all hd hn)
theorem cell_plain {w : World} {a : Addr} {v : Value} (h : w.cell? a = some v) : a.spot = none ∧ a.block < w.heap.size := by
  have hb := World.block_lt_of_cell? w a h
  refine ⟨?_, hb⟩
  unfold World.cell? at h
  split at h
  · split at h
    · cases h
    · rename_i hs
      simpa using hs
  · cases h
theorem add_at {b o n : Nat} : Addr.add ⟨b, o, none⟩ n = ⟨b, o + n, none⟩ := by
  unfold Addr.add
  split
  · subst n; rfl
  · rfl
theorem choose_row {α : Type} {n : Nat} {p : Nat → α → Prop} (h : ∀ i, i < n → ∃ y, p i y) : ∃ l : List α, l.length = n ∧ ∀ i y, l[i]? = some y → p i y := by
  obtain ⟨f, hf⟩ : ∃ f : (i : Nat) → i < n → α, ∀ i hi, p i (f i hi) := ⟨fun i hi => (h i hi).choose, fun i hi => (h i hi).choose_spec⟩
  refine ⟨List.ofFn fun i : Fin n => f i.1 i.2, by simp, fun i y hy => ?_⟩
  rw [List.getElem?_eq_some_iff] at hy
  obtain ⟨hi, hy⟩ := hy
  simp only [List.getElem_ofFn] at hy
  subst hy
  exact hf _ _
theorem kcTm : Tryz.prog.cellsOf 58 = 4 := by kernel_rfl
theorem kcV : Tryz.prog.cellsOf 56 = 3 := by kernel_rfl
theorem kcK : Tryz.prog.cellsOf 54 = 1 := by kernel_rfl
theorem kcLk : Tryz.prog.cellsOf 53 = 1 := by kernel_rfl
theorem kcN : Tryz.prog.cellsOf 3 = 1 := by kernel_rfl
theorem kcSt : Tryz.prog.cellsOf 9 = 1 := by kernel_rfl
theorem kcEx : Tryz.prog.cellsOf 61 = 6 := by kernel_rfl
theorem kcAm : Tryz.prog.cellsOf 49 = 2 := by kernel_rfl
theorem kcLt : Tryz.prog.cellsOf 63 = 17 := by kernel_rfl
theorem kcRu : Tryz.prog.cellsOf 52 = 6 := by kernel_rfl
theorem kcDe : Tryz.prog.cellsOf 100 = 3 := by kernel_rfl
theorem kcPg : Tryz.prog.cellsOf 25 = 2 := by kernel_rfl
theorem kcS1 : Tryz.prog.cellsOf 47 = 1 := by kernel_rfl
theorem kcS2 : Tryz.prog.cellsOf 59 = 1 := by kernel_rfl
theorem kcS3 : Tryz.prog.cellsOf 50 = 1 := by kernel_rfl
theorem kcS4 : Tryz.prog.cellsOf 23 = 1 := by kernel_rfl
theorem kcS5 : Tryz.prog.cellsOf 22 = 1 := by kernel_rfl
theorem kcS6 : Tryz.prog.cellsOf 98 = 1 := by kernel_rfl

section
variable {H : Type} {enc : TypeId × Value → H} {W : World} {base : Nat} {sp : Nat → Bool} {held : Bool}
/-- each of a datum's blocks is within the reach. -/
def Rch (t : TypeId) (d : DataW H) : Prop := ∀ n ∈ d.weights Tryz.prog t, n ≤ 140737488351232
/-- the parts of a struct. -/
theorem tr_flds {t : TypeId} {fs : Array Field} {fuel : Nat} {cs : List Value} {x : DataW H × List MemPlace} (hu : Tryz.prog.underlying t = some (.struct fs)) (h : DataW.trod enc Tryz.prog W base sp held fuel t cs = some x) (hw : Rch t x.1) :
    ∃ n, fuel = n + 1 ∧ cs.length = Tryz.prog.cellsOf t ∧ ∀ (i : Nat) f, fs[i]? = some f → ∃ y, DataW.trod enc Tryz.prog W base sp held n f.type ((cs.drop f.offset).take (Tryz.prog.cellsOf f.type)) = some y ∧ Rch f.type y.1 := by
  obtain ⟨xs, n, hn, rfl, hl, hxl, hf⟩ := DataW.trod_struct hu h
  refine ⟨n, hn, hl, fun i f hi => ?_⟩
  have hlt : i < xs.length := by
    rw [hxl]
    exact (Array.getElem?_eq_some_iff.1 hi).1
  refine ⟨xs[i], (hf i f hi).trans (List.getElem?_eq_getElem hlt), fun m hm => hw m ?_⟩
  simp only [DataW.weights, hu]
  exact DataW.weights_mem_each (j := i) (by simp [hi]) (by simp [List.getElem?_eq_getElem hlt]) m hm
theorem tr_str {fuel : Nat} {cs : List Value} {x : DataW H × List MemPlace} (h : DataW.trod enc Tryz.prog W base sp held fuel 9 cs = some x) (hw : Rch 9 x.1) : ∃ s : ByteArray, cs = [.string s] ∧ s.size ≤ 140737488351232 := by
  obtain ⟨s, e2, e3, _⟩ := DataW.trod_string Tryz.underlying9 h
  refine ⟨s, e2, hw _ ?_⟩
  rw [e3]
  simp [DataW.weights]
theorem tr_int {t : TypeId} (hu : Tryz.prog.underlying t = some (.int .i64)) {fuel : Nat} {cs : List Value} {x : DataW H × List MemPlace} (h : DataW.trod enc Tryz.prog W base sp held fuel t cs = some x) : ∃ z : Int, cs = [.int .i64 z] ∧ -9223372036854775808 ≤ z ∧ z ≤ 9223372036854775807 := by
  obtain ⟨z, e0, _, hz⟩ := DataW.trod_int hu h
  refine ⟨z, e0, ?_⟩
  simp only [Lit.wf, Bool.and_eq_true, decide_eq_true_eq] at hz
  exact hz
theorem cells_at {b o K : Nat} {cs : List Value} (h : W.cells? base ⟨b, o, none⟩ K = some cs) : cs.length = K ∧ ∀ i, i < K → W.cell? ⟨b, o + i, none⟩ = cs[i]? := by
  obtain ⟨_, h1, h2⟩ := World.cells?_some h
  exact ⟨h1, fun i hi => by rw [← h2 i hi, add_at]⟩
/-- a row of things. -/
theorem tr_row {α : Type} {S E : TypeId} {K fuel : Nat} (Q : World → Nat → Nat → α → Prop) (hu : Tryz.prog.underlying S = some (.slice E)) (hK : Tryz.prog.cellsOf E = K) (hK0 : 0 < K) (hB : 0 < Tryz.prog.bytesOf E)
    (hel : ∀ n b o cs x, n < fuel → W.cells? base ⟨b, o, none⟩ K = some cs → DataW.trod enc Tryz.prog W base sp held n E cs = some x → Rch E x.1 → ∃ y, Q W b o y)
    {cs : List Value} {x : DataW H × List MemPlace} (h : DataW.trod enc Tryz.prog W base sp held fuel S cs = some x) (hw : Rch S x.1) :
    ∃ (A : Option Addr) (c : Nat) (l : List α), cs = [.slice A l.length c] ∧ Rg K Q W A l := by
  rcases DataW.trod_slice hu h with ⟨rfl, _⟩ | ⟨a, len, cap, elems, rest, n, hn, rfl, rfl, hb, hl, hm, hlen, hel', _, _⟩
  · exact ⟨none, 0, [], rfl, Rg.nil⟩
  · rw [hK] at hel'
    have hle : len ≤ 140737488351232 := by
      refine Nat.le_trans ?_ (hw ((elems.length + rest.length) * Tryz.prog.bytesOf E) (by simp [DataW.weights, hu]))
      rw [hlen]
      exact Nat.le_trans (Nat.le_add_right _ _) (Nat.le_mul_of_pos_right _ hB)
    by_cases h0 : len = 0
    · subst h0
      exact ⟨some a, cap, [], rfl, Rg.nil⟩
    · have hat : ∀ i, i < len → ∃ cs' y, W.cells? base (a.add (i * K)) K = some cs' ∧ DataW.trod enc Tryz.prog W base sp held n E cs' = some y ∧ Rch E y.1 := fun i hi => by
        have h1 := hel' i hi
        rw [List.getElem?_eq_getElem (by omega)] at h1
        obtain ⟨cs', h2, h3⟩ := Option.bind_eq_some_iff.1 h1
        refine ⟨cs', _, h2, h3, fun m hm => hw m ?_⟩
        simp only [DataW.weights, hu, List.mem_cons, List.mem_append]
        exact .inr (.inl (weights_all (List.mem_map.2 ⟨_, List.getElem_mem (by omega), rfl⟩) hm))
      obtain ⟨cs0, _, h2, _⟩ := hat 0 (by omega)
      obtain ⟨_, hl0, hc0⟩ := World.cells?_some h2
      have hc0 := hc0 0 hK0
      rw [List.getElem?_eq_getElem (by omega)] at hc0
      obtain ⟨hs0, hb0⟩ := cell_plain hc0
      obtain ⟨ab, ao, asp⟩ := a
      have hsp : asp = none := by simpa [Addr.add] using hs0
      subst hsp
      have hb1 : ab < W.heap.size := by simpa [Addr.add] using hb0
      obtain ⟨l, hll, hf⟩ := choose_row (n := len) (p := fun i y => Q W ab (ao + i * K) y) fun i hi => by
        obtain ⟨cs', y, h2, h3, h4⟩ := hat i hi
        rw [add_at] at h2
        exact hel n _ _ cs' y (by omega) h2 h3 h4
      subst hll
      exact ⟨_, cap, l, rfl, hle, fun _ => ⟨ab, ao, rfl, hb1, hf⟩⟩

theorem tr_tm {fuel : Nat} {cs : List Value} {x : DataW H × List MemPlace} (h : DataW.trod enc Tryz.prog W base sp held fuel 58 cs = some x) (hw : Rch 58 x.1) :
    ∃ t : TTm, cs = [.string t.v, .int .i64 t.k, .int .i64 t.n, .string t.s] ∧ okTm t := by
  obtain ⟨n, _, hl, hf⟩ := tr_flds Tryz.underlying58 h hw
  rw [kcTm] at hl
  match cs, hl with
  | [v0, v1, v2, v3], _ =>
    obtain ⟨y0, g0, r0⟩ := hf 0 _ rfl
    obtain ⟨y1, g1, r1⟩ := hf 1 _ rfl
    simp [kcSt, kcV] at g0 g1
    obtain ⟨s, e0, l0⟩ := tr_str g0 r0
    obtain ⟨m, _, _, hg⟩ := tr_flds Tryz.underlying56 g1 r1
    obtain ⟨z0, k0, q0⟩ := hg 0 _ rfl
    obtain ⟨z1, k1, q1⟩ := hg 1 _ rfl
    obtain ⟨z2, k2, q2⟩ := hg 2 _ rfl
    simp [kcK, kcN, kcSt] at k0 k1 k2
    obtain ⟨a, e1, _⟩ := tr_int Tryz.underlying54 k0
    obtain ⟨b, e2, _⟩ := tr_int Tryz.underlying3 k1
    obtain ⟨c, e3, l3⟩ := tr_str k2 q2
    simp at e0 e1 e2 e3
    subst e0 e1 e2 e3
    exact ⟨⟨s, a, b, c⟩, rfl, l0, l3⟩
theorem el_tm {n b o : Nat} {cs : List Value} {x : DataW H × List MemPlace} (hc : W.cells? base ⟨b, o, none⟩ 4 = some cs) (h : DataW.trod enc Tryz.prog W base sp held n 58 cs = some x) (hw : Rch 58 x.1) : ∃ t, TmC W b o t := by
  obtain ⟨t, rfl, ho⟩ := tr_tm h hw
  obtain ⟨_, h1⟩ := cells_at hc
  exact ⟨t, h1 0 (by omega), h1 1 (by omega), h1 2 (by omega), h1 3 (by omega), ho⟩
theorem tr_ex : ∀ (fuel : Nat) {cs : List Value} {x : DataW H × List MemPlace}, DataW.trod enc Tryz.prog W base sp held fuel 61 cs = some x → Rch 61 x.1 →
    ∃ (e : TEx) (A : Option Addr) (c : Nat), cs = [.int .i64 e.op, .string e.t.v, .int .i64 e.t.k, .int .i64 e.t.n, .string e.t.s, .slice A e.kids.length c] ∧ ExV W e A := by
  intro fuel
  induction fuel using Nat.strongRecOn with
  | _ fuel ih =>
    intro cs x h hw
    obtain ⟨n, hn, hl, hf⟩ := tr_flds Tryz.underlying61 h hw
    rw [kcEx] at hl
    match cs, hl with
    | [v0, v1, v2, v3, v4, v5], _ =>
      obtain ⟨y0, g0, r0⟩ := hf 0 _ rfl
      obtain ⟨y1, g1, r1⟩ := hf 1 _ rfl
      obtain ⟨y2, g2, r2⟩ := hf 2 _ rfl
      simp [kcN, kcTm, kcS2] at g0 g1 g2
      obtain ⟨z, e0, _⟩ := tr_int Tryz.underlying3 g0
      obtain ⟨t, e1, ht⟩ := tr_tm g1 r1
      obtain ⟨A, c, l, e2, hR⟩ := tr_row (K := 6) ExC Tryz.underlying59 kcEx (by decide) (by decide +kernel) (fun m b o cs' y hm hc hy hyw => by
        obtain ⟨e, A, c, e1, he⟩ := ih m (by omega) hy hyw
        subst e1
        obtain ⟨_, h1⟩ := cells_at hc
        exact ⟨e, ExC.shut (h1 0 (by omega)) (h1 1 (by omega)) (h1 2 (by omega)) (h1 3 (by omega)) (h1 4 (by omega)) (h1 5 (by omega)) he⟩) g2 r2
      simp at e0 e1 e2
      obtain ⟨e11, e12, e13, e14⟩ := e1
      subst e0 e11 e12 e13 e14 e2
      exact ⟨.mk z t l, A, c, rfl, ht, hR⟩
theorem tr_am {fuel : Nat} {cs : List Value} {x : DataW H × List MemPlace} (h : DataW.trod enc Tryz.prog W base sp held fuel 49 cs = some x) (hw : Rch 49 x.1) :
    ∃ (a : TAm) (A : Option Addr) (c : Nat), cs = [.string a.rel, .slice A a.args.length c] ∧ AmV W a A := by
  obtain ⟨n, _, hl, hf⟩ := tr_flds Tryz.underlying49 h hw
  rw [kcAm] at hl
  match cs, hl with
  | [v0, v1], _ =>
    obtain ⟨y0, g0, r0⟩ := hf 0 _ rfl
    obtain ⟨y1, g1, r1⟩ := hf 1 _ rfl
    simp [kcSt, kcS1] at g0 g1
    obtain ⟨s, e0, l0⟩ := tr_str g0 r0
    obtain ⟨A, c, l, e1, hR⟩ := tr_row (K := 4) TmC Tryz.underlying47 kcTm (by decide) (by decide +kernel) (fun m b o cs' y _ hc hy hyw => el_tm hc hy hyw) g1 r1
    simp at e0 e1
    subst e0 e1
    exact ⟨⟨s, l⟩, A, c, rfl, l0, hR⟩
theorem tr_lt {fuel : Nat} {cs : List Value} {x : DataW H × List MemPlace} (h : DataW.trod enc Tryz.prog W base sp held fuel 63 cs = some x) (hw : Rch 63 x.1) :
    ∃ (y : TLt) (A : Option Addr) (c : Nat) (L : Option Addr) (d : Nat) (R : Option Addr) (f : Nat), cs = [.int .i64 y.kind, .string y.atom.rel, .slice A y.atom.args.length c, .int .i64 y.op, .int .i64 y.left.op, .string y.left.t.v, .int .i64 y.left.t.k, .int .i64 y.left.t.n, .string y.left.t.s, .slice L y.left.kids.length d,
    .int .i64 y.right.op, .string y.right.t.v, .int .i64 y.right.t.k, .int .i64 y.right.t.n, .string y.right.t.s, .slice R y.right.kids.length f, .int .i64 y.pos] ∧ LtV W y A L R := by
  obtain ⟨n, _, hl, hf⟩ := tr_flds Tryz.underlying63 h hw
  rw [kcLt] at hl
  match cs, hl with
  | [v0, v1, v2, v3, v4, v5, v6, v7, v8, v9, v10, v11, v12, v13, v14, v15, v16], _ =>
    obtain ⟨y0, g0, r0⟩ := hf 0 _ rfl
    obtain ⟨y1, g1, r1⟩ := hf 1 _ rfl
    obtain ⟨y2, g2, r2⟩ := hf 2 _ rfl
    obtain ⟨y3, g3, r3⟩ := hf 3 _ rfl
    obtain ⟨y4, g4, r4⟩ := hf 4 _ rfl
    obtain ⟨y5, g5, r5⟩ := hf 5 _ rfl
    simp [kcN, kcLk, kcAm, kcEx] at g0 g1 g2 g3 g4 g5
    obtain ⟨k, e0, lo, hi⟩ := tr_int Tryz.underlying53 g0
    obtain ⟨a, A, c, e1, ha⟩ := tr_am g1 r1
    obtain ⟨p, e2, _⟩ := tr_int Tryz.underlying3 g2
    obtain ⟨l, L, d, e3, hL⟩ := tr_ex _ g3 r3
    obtain ⟨r, R, f, e4, hR⟩ := tr_ex _ g4 r4
    obtain ⟨q, e5, _⟩ := tr_int Tryz.underlying3 g5
    simp at e0 e1 e2 e3 e4 e5
    obtain ⟨e10, e11⟩ := e1
    obtain ⟨e30, e31, e32, e33, e34, e35⟩ := e3
    obtain ⟨e40, e41, e42, e43, e44, e45⟩ := e4
    subst e0 e10 e11 e2 e30 e31 e32 e33 e34 e35 e40 e41 e42 e43 e44 e45 e5
    exact ⟨⟨k, a, p, l, r, q⟩, A, c, L, d, R, f, rfl, ha, hL, hR, lo, hi⟩
theorem el_lt {n b o : Nat} {cs : List Value} {x : DataW H × List MemPlace} (hc : W.cells? base ⟨b, o, none⟩ 17 = some cs) (h : DataW.trod enc Tryz.prog W base sp held n 63 cs = some x) (hw : Rch 63 x.1) : ∃ t, LtC W b o t := by
  obtain ⟨t, A, c, L, d, R, f, rfl, hv⟩ := tr_lt h hw
  obtain ⟨_, h1⟩ := cells_at hc
  exact ⟨t, LtC.shut (A := A) (c := c) (L := L) (d := d) (R := R) (f := f) ⟨h1 0 (by omega), h1 1 (by omega), h1 2 (by omega), h1 3 (by omega), ⟨h1 4 (by omega), h1 5 (by omega), h1 6 (by omega), h1 7 (by omega), h1 8 (by omega), h1 9 (by omega)⟩,
    ⟨h1 10 (by omega), h1 11 (by omega), h1 12 (by omega), h1 13 (by omega), h1 14 (by omega), h1 15 (by omega)⟩, h1 16 (by omega)⟩ hv⟩
theorem el_ru {n b o : Nat} {cs : List Value} {x : DataW H × List MemPlace} (hc : W.cells? base ⟨b, o, none⟩ 6 = some cs) (h : DataW.trod enc Tryz.prog W base sp held n 52 cs = some x) (hw : Rch 52 x.1) : ∃ t, RuC W b o t := by
  obtain ⟨_, h1⟩ := cells_at hc
  obtain ⟨n, _, hl, hf⟩ := tr_flds Tryz.underlying52 h hw
  rw [kcRu] at hl
  match cs, hl with
  | [v0, v1, v2, v3, v4, v5], _ =>
    obtain ⟨y0, g0, r0⟩ := hf 0 _ rfl
    obtain ⟨y1, g1, r1⟩ := hf 1 _ rfl
    obtain ⟨y2, g2, r2⟩ := hf 2 _ rfl
    obtain ⟨y3, g3, r3⟩ := hf 3 _ rfl
    obtain ⟨y4, g4, r4⟩ := hf 4 _ rfl
    simp [kcN, kcAm, kcS3] at g0 g1 g2 g3 g4
    obtain ⟨a, A, c, e0, ha⟩ := tr_am g0 r0
    obtain ⟨p, e1, _⟩ := tr_int Tryz.underlying3 g1
    obtain ⟨q, e2, _⟩ := tr_int Tryz.underlying3 g2
    obtain ⟨B, d, l, e3, hR⟩ := tr_row (K := 17) LtC Tryz.underlying50 kcLt (by decide) (by decide +kernel) (fun m b o cs' y _ hc hy hyw => el_lt hc hy hyw) g3 r3
    obtain ⟨r, e4, _⟩ := tr_int Tryz.underlying3 g4
    simp at e0 e1 e2 e3 e4
    obtain ⟨e00, e01⟩ := e0
    subst e00 e01 e1 e2 e3 e4
    exact ⟨⟨a, p, q, l, r⟩, RuC.shut (A := A) (c := c) (B := B) (d := d) (h1 0 (by omega)) (h1 1 (by omega)) (h1 2 (by omega)) (h1 3 (by omega)) (h1 4 (by omega)) (h1 5 (by omega)) ⟨ha, hR⟩⟩
theorem el_de {n b o : Nat} {cs : List Value} {x : DataW H × List MemPlace} (hc : W.cells? base ⟨b, o, none⟩ 3 = some cs) (h : DataW.trod enc Tryz.prog W base sp held n 100 cs = some x) (hw : Rch 100 x.1) : ∃ t, DeC W b o t := by
  obtain ⟨_, h1⟩ := cells_at hc
  obtain ⟨n, _, hl, hf⟩ := tr_flds Tryz.underlying100 h hw
  rw [kcDe] at hl
  match cs, hl with
  | [v0, v1, v2], _ =>
    obtain ⟨y0, g0, r0⟩ := hf 0 _ rfl
    obtain ⟨y1, g1, r1⟩ := hf 1 _ rfl
    obtain ⟨y2, g2, r2⟩ := hf 2 _ rfl
    simp [kcN, kcSt, kcS6] at g0 g1 g2
    obtain ⟨s, e0, l0⟩ := tr_str g0 r0
    obtain ⟨A, c, l, e1, hR⟩ := tr_row (K := 1) IntC Tryz.underlying98 kcK (by decide) (by decide +kernel) (fun m b o cs' y _ hc hy hyw => by
      obtain ⟨z, rfl, _⟩ := tr_int Tryz.underlying54 hy
      obtain ⟨_, h1⟩ := cells_at hc
      exact ⟨z, h1 0 (by omega)⟩) g1 r1
    obtain ⟨r, e2, _⟩ := tr_int Tryz.underlying3 g2
    simp at e0 e1 e2
    subst e0 e1 e2
    exact ⟨⟨s, l, r⟩, h1 0 (by omega), ⟨A, c, h1 1 (by omega), hR⟩, h1 2 (by omega), l0⟩
theorem tr_pg {fuel : Nat} {cs : List Value} {x : DataW H × List MemPlace} (h : DataW.trod enc Tryz.prog W base sp held fuel 25 cs = some x) (hw : Rch 25 x.1) :
    ∃ (p : TPg) (A : Option Addr) (c : Nat) (B : Option Addr) (d : Nat), cs = [.slice A p.decls.length c, .slice B p.rules.length d] ∧ PgV W p A B := by
  obtain ⟨n, _, hl, hf⟩ := tr_flds Tryz.underlying25 h hw
  rw [kcPg] at hl
  match cs, hl with
  | [v0, v1], _ =>
    obtain ⟨y0, g0, r0⟩ := hf 0 _ rfl
    obtain ⟨y1, g1, r1⟩ := hf 1 _ rfl
    simp [kcS4, kcS5] at g0 g1
    obtain ⟨A, c, l, e0, hA⟩ := tr_row (K := 3) DeC Tryz.underlying22 kcDe (by decide) (by decide +kernel) (fun m b o cs' y _ hc hy hyw => el_de hc hy hyw) g0 r0
    obtain ⟨B, d, m, e1, hB⟩ := tr_row (K := 6) RuC Tryz.underlying23 kcRu (by decide) (by decide +kernel) (fun m b o cs' y _ hc hy hyw => el_ru hc hy hyw) g1 r1
    simp at e0 e1
    subst e0 e1
    exact ⟨⟨l, m⟩, A, c, B, d, rfl, hA, hB⟩
theorem open_pg {b0 : Nat} {r : Reach} {v : Value} {d : DataW H} {p : List MemPlace} (hv : Value.okWide Tryz.prog W r b0 25 v) (h : DataW.Trod enc Tryz.prog W base sp held 25 v d p) (hs : ∀ n ∈ d.weights Tryz.prog 25, n ≤ reachBytes) :
    ∃ (q : TPg) (A : Option Addr) (c : Nat) (B : Option Addr) (e : Nat), v = pgV q A c B e ∧ PgV W q A B := by
  obtain ⟨cs, rfl, _⟩ := okWide_struct Tryz.underlying25 hv
  obtain ⟨fuel, hf⟩ := h
  have hf : DataW.trod enc Tryz.prog W base sp held fuel 25 cs.toList = some (d, p) := hf
  obtain ⟨q, A, c, B, e, h1, h2⟩ := tr_pg hf hs
  obtain ⟨cs⟩ := cs
  simp only at h1
  subst h1
  exact ⟨q, A, c, B, e, rfl, h2⟩
end
end Go.Proofs.YtikohamfnnlhcaaGreatDoor

set_option linter.unusedVariables false
set_option linter.unusedSimpArgs false
set_option maxRecDepth 100000
namespace Go.Proofs.YtikohamfnnlhcaaGreatDoor
open Go.Lib Go.RowKit Go.ChangeShapes Go.WideShapes Go.ChangeAt Go.Joins Go.Deep

theorem op_cells {H : Type} {enc : TypeId × Value → H} {W : World} {base : Nat} {sp : Nat → Bool} {held : Bool} {fuel : Nat} {cs : List Value} {x : DataW H × List MemPlace} {t : List UInt8} {n : Int}
    (h : DataW.trod enc Tryz.prog W base sp held fuel 154 cs = some x) (hx : x.1 = .agg [.lit (.string t), .lit (.int .i64 n)]) : cs = [.string (bts t), .int .i64 n] := by
  obtain ⟨xs, m, hn, rfl, hl, hxl, hf⟩ := DataW.trod_struct Tryz.underlying154 h
  have hc2 : Tryz.prog.cellsOf 154 = 2 := by kernel_rfl
  rw [hc2] at hl
  obtain ⟨c0, c1, rfl⟩ : ∃ c0 c1, cs = [c0, c1] := by
    rcases cs with _ | ⟨c0, _ | ⟨c1, _ | ⟨c2, r⟩⟩⟩ <;> simp at hl
    exact ⟨c0, c1, rfl⟩
  simp only [DataW.agg.injEq] at hx
  obtain ⟨y0, y1, rfl⟩ : ∃ y0 y1, xs = [y0, y1] := by
    have hlen := congrArg List.length hx
    rcases xs with _ | ⟨c0, _ | ⟨c1, _ | ⟨c2, r⟩⟩⟩ <;> simp at hlen
    exact ⟨c0, c1, rfl⟩
  simp only [List.map_cons, List.map_nil, List.cons.injEq, and_true] at hx
  obtain ⟨hx0, hx1⟩ := hx
  have f0 := hf 0 _ rfl
  have f1 := hf 1 _ rfl
  simp [kcSt, kcN] at f0 f1
  obtain ⟨s0, e0, d0, _⟩ := DataW.trod_string Tryz.underlying9 f0
  obtain ⟨z1, e1, d1, _⟩ := DataW.trod_int Tryz.underlying3 f1
  rw [d0] at hx0
  rw [d1] at hx1
  simp only [DataW.lit.injEq, Lit.int.injEq, Lit.string.injEq, true_and] at hx0 hx1
  simp at e0 e1
  rw [e0, e1, hx1, ← hx0, bts_of]
def opData {H : Type} (ls : List (List UInt8 × Int)) : DataW H := .agg (ls.map fun x => .agg [.lit (.string x.1), .lit (.int .i64 x.2)])
theorem ops_cells {H : Type} {enc : TypeId × Value → H} {w : World} {base : Nat} {sp : Nat → Bool} {held : Bool} {fuel : Nat} {cs : List Value} {p : List MemPlace}
    (h : DataW.trod enc Tryz.prog w base sp held fuel 155 cs = some (opData opsL, p)) : ∀ (j : Nat) x, opsL[j]? = some x → cs[j * 2]? = some (.string (bts x.1)) ∧ cs[j * 2 + 1]? = some (.int .i64 x.2) := by
  have hct : Tryz.prog.cellsOf 155 = 8 := by kernel_rfl
  have hce : Tryz.prog.cellsOf 154 = 2 := by kernel_rfl
  cases fuel with
  | zero => simp [DataW.trod] at h
  | succ fuel =>
    simp only [DataW.trod, Tryz.underlying155, hce, hct] at h
    split at h
    · rename_i hl
      obtain ⟨xs, hm, hx⟩ := Option.map_eq_some_iff.1 h
      have hxs : xs.map (·.1) = opsL.map fun x => (.agg [.lit (.string x.1), .lit (.int .i64 x.2)] : DataW H) := by
        have := congrArg Prod.fst hx
        simpa [opData] using this
      intro i x hi
      have hi4 : i < 4 := (List.getElem?_eq_some_iff.1 hi).1
      obtain ⟨b, hb, hf⟩ := mapM_at hm i i (by simp [hi4])
      have h2 : (xs.map (·.1))[i]? = some b.1 := by simp [hb]
      rw [hxs] at h2
      simp only [List.getElem?_map, hi, Option.map_some, Option.some.injEq] at h2
      have hc := op_cells hf h2.symm
      have g : ∀ j, j < 2 → cs[i * 2 + j]? = ([.string (bts x.1), .int .i64 x.2] : List Value)[j]? := fun j hj => by
        rw [← hc, List.getElem?_take, if_pos hj, List.getElem?_drop]
      exact ⟨g 0 (by decide), g 1 (by decide)⟩
    · cases h
theorem gOps : Tryz.prog.globalNamed "corollary/show.operations" = some 1 := by kernel_rfl
theorem gOpsType : (Tryz.prog.globals[1]?).map (·.type) = some 155 := by kernel_rfl
theorem gCmps : Tryz.prog.globalNamed "corollary/show.comparisons" = some 0 := by kernel_rfl
theorem gCmpsType : (Tryz.prog.globals[0]?).map (·.type) = some 150 := by kernel_rfl
theorem gAggs : Tryz.prog.globalNamed "corollary/show.aggregates" = some 2 := by kernel_rfl
theorem gAggsType : (Tryz.prog.globals[2]?).map (·.type) = some 187 := by kernel_rfl
theorem cells7 : Tryz.prog.cellsOf 150 = 7 := by kernel_rfl
theorem cells5 : Tryz.prog.cellsOf 187 = 5 := by kernel_rfl
theorem ops_of_head {W : World} {rest : List (String × DataW Unit)} (h : laidMet Tryz.prog (("corollary/show.operations", opData opsL) :: rest) W) : OpsTab W := by
  obtain ⟨ps, ⟨g', t', cs, fuel, p, q, hg', ht', hvar, hd, _, _⟩, _⟩ := h
  obtain rfl := Option.some.inj (gOps.symm.trans hg')
  obtain rfl := Option.some.inj (gOpsType.symm.trans ht')
  have hall : ∀ (j : Nat) x, opsL[j]? = some x → W.cell? ⟨1, j * 2, none⟩ = some (.string (bts x.1)) ∧ W.cell? ⟨1, j * 2 + 1, none⟩ = some (.int .i64 x.2) := fun j x hx => by
    obtain ⟨h0, h1⟩ := ops_cells hd j x hx
    rw [World.var?_cell gOps hvar, World.var?_cell gOps hvar, ← Array.getElem?_toList, ← Array.getElem?_toList]
    exact ⟨h0, h1⟩
  exact ⟨World.block_lt_of_cell? _ _ (hall 0 _ rfl).1, hall⟩
theorem tab_of {W : World} {g : Nat} {L : List (List UInt8)} {x : List UInt8} (h0 : L[0]? = some x) (h : ∀ (j : Nat) x, L[j]? = some x → W.cell? ⟨g, j, none⟩ = some (.string (bts x))) : StrTab W g L := ⟨World.block_lt_of_cell? _ _ (h 0 _ h0), h⟩
section
variable {H : Type} {enc : TypeId × Value → H} {W : World} {base : Nat} {sp : Nat → Bool} {held : Bool}
end
end Go.Proofs.YtikohamfnnlhcaaGreatDoor

set_option linter.unusedVariables false
set_option linter.unusedSimpArgs false
set_option maxRecDepth 100000
namespace Go.Proofs.YtikohamfnnlhcaaGreatDoor
open Go.Lib Go.RowKit Go.ChangeShapes Go.WideShapes Go.ChangeAt Go.Joins Go.Deep

theorem gKinds : Tryz.prog.globalNamed "corollary/show.kinds" = some 3 := by kernel_rfl
theorem gKindsType : (Tryz.prog.globals[3]?).map (·.type) = some 209 := by kernel_rfl
theorem cellsK3 : Tryz.prog.cellsOf 209 = 3 := by kernel_rfl
/-- the rows' laid variables, as the walks take them. -/
theorem laysP {W : World} (h : laidMetH Tryz.prog Rows.showProgramsRow.laid W) : Lays W := by
  have h2 := laidMet.tail (laidMet.tail h)
  have h3 := laidMet.tail h2
  have h5 := laidMet.tail (laidMet.tail h3)
  have h6 := laidMet.tail h5
  obtain ⟨a0, _, v0, _⟩ := laid_sentinel h3 gRng gRngType Tryz.underlying41 rowErr Tryz.underlying281 Tryz.underlying283 rfl rfl Tryz.underlying9 cellsErr cellsStr
  obtain ⟨a1, _, v1, _⟩ := laid_sentinel (laidMet.tail h3) gSyn gSynType Tryz.underlying41 rowErr Tryz.underlying281 Tryz.underlying283 rfl rfl Tryz.underlying9 cellsErr cellsStr
  exact ⟨strs_of_head (ls := keysL) (rest := _) gKeys gKeysType Tryz.underlying253 Tryz.underlying9 cellsStr cellsK h5, strs_of_head (ls := signsL) (rest := _) gSigns gSignsType Tryz.underlying241 Tryz.underlying9 cellsStr cellsS h6,
    Lib.tabIs_of_head (rest := _) gPow gTabType Tryz.underlying260 Tryz.underlying248 cellsE cellsT h2, ⟨_, _, v1⟩, ⟨_, _, v0⟩⟩
theorem shtsP {W : World} (h : laidMetH Tryz.prog Rows.showProgramsRow.laid W) : Sht W ∧ StrTab W 3 kindsL := by
  have h7 := laidMet.tail (laidMet.tail (laidMet.tail (laidMet.tail (laidMet.tail (laidMet.tail (laidMet.tail h))))))
  have h8 := laidMet.tail h7
  have h9 := laidMet.tail h8
  have hA := laidMet.tail h9
  exact ⟨⟨laysP h, ops_of_head (rest := _) hA, tab_of (x := []) rfl (strs_of_head (ls := cmpsL) (rest := _) gCmps gCmpsType Tryz.underlying150 Tryz.underlying9 cellsStr cells7 h9), tab_of (x := []) rfl (strs_of_head (ls := aggsL) (rest := _) gAggs gAggsType Tryz.underlying187 Tryz.underlying9 cellsStr cells5 h8)⟩,
    tab_of (x := []) rfl (strs_of_head (ls := kindsL) (rest := _) gKinds gKindsType Tryz.underlying209 Tryz.underlying9 cellsStr cellsK3 h7)⟩
end Go.Proofs.YtikohamfnnlhcaaGreatDoor
