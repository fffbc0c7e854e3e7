/- A law's end, once for all laws of this seat: a call that returns true and lays nothing but new blocks meets 'true; each argument reads as it did'. Conditions: none. A table of texts that is laid reads, cell for cell, as its texts; what the rows' laid variables come to. Conditions: none. What came in: a program, an expression, read as data. Conditions: the form's reach. The document's programs: which are formed. Conditions: texts of at most 2^47 bytes. TermFormed: two programs copied and laid into two boxes, in whatever order. Conditions: none. TermFormed: the walk. Conditions: texts of at most 2^47 bytes; lex's two tables and strconv's variables as they are laid. TermFormed is true for every two programs: the first is formed, and the two are the same, where the document says so; and the first is the same as itself. Conditions: none beyond the card's own (lex's tables and the library's variables as their initialisers lay them, tied to the program's text). -/
import Derived.Test.YtlfakhjcpdkaiaaGreatDoorRows
import Derived.WalkKit
import Derived.ProofKit
import Derived.OpenShut
import Derived.Carry
import Derived.Lib.SmallJoins
import Derived.Test.YtlfakhjcpdkaiaaGreatDoorLexE
import Derived.Lib.LaidTab
import Derived.Stop.LaidErr
import Derived.LaidMore
import Derived.Test.YtlfakhjcpdkaiaaGreatDoorTermB
import Derived.Deep.Slices
import Derived.SizedLaws
import Derived.Test.YtlfakhjcpdkaiaaGreatDoorTermSz
import Derived.Test.YtlfakhjcpdkaiaaGreatDoorTermRp
import Derived.Test.YtlfakhjcpdkaiaaGreatDoorTermCd
import Derived.Test.YtlfakhjcpdkaiaaGreatDoorTermSf
import Derived.Test.YtlfakhjcpdkaiaaGreatDoorTermTb
import Derived.Test.YtlfakhjcpdkaiaaGreatDoorTermL
import Derived.Deep.RegionHeld3
import Derived.Test.YtlfakhjcpdkaiaaGreatDoorCards
import Derived.Test.YtlfakhjcpdkaiaaGreatDoorTie
import Derived.Deep.DeepHandedRow
import Derived.Deep.DeepWitnessRowRef
import Derived.Stop.Joined
namespace Go.Proofs.YtlfakhjcpdkaiaaGreatDoor
open Go.ChangeShapes Go.WideShapes Go.ChangeAt Go.RowKit Go.Joins

theorem trodAll_below {H : Type} {enc : TypeId × Value → H} {P : Program} (hl : laidOutB P = true) {W W' : World} (hb : Below W.heap.size W W') :
    ∀ {ts : List TypeId} {vs : List Value} {ds : List (DataW H)} {ps : List MemPlace}, (ts.all fun t => P.readableRec t && decide (t < P.types.size)) = true →
      DataW.TrodAll enc P W 0 (fun _ => true) true ts vs ds ps → (∀ x ∈ ps, x.block < W.heap.size) → DataW.TrodAll enc P W' 0 (fun b => decide (b < W.heap.size)) true ts vs ds ps
  | [], vs, ds, ps, _, h, _ => by
    obtain ⟨rfl, rfl, rfl⟩ := trodAll_nil h
    exact trodAll_mk0
  | t :: ts, vs, ds, ps, ht, h, hp => by
    simp only [List.all_cons, Bool.and_eq_true, decide_eq_true_eq] at ht
    obtain ⟨v, vs', d, ds', p, p', rfl, rfl, rfl, h0, hr⟩ := trodAll_cons h
    exact trodAll_cons_mk (Below.trod hl ht.1.1 ht.1.2 h0 hb fun x hx => hp x (by simp [hx])) (trodAll_below hl hb (by simpa using ht.2) hr fun x hx => hp x (by simp [hx]))

theorem law_post {H : Type} {enc : TypeId × Value → H} {P : Program} {f : Func} {s : ChangeSpec} {W W' : World} {args : Array Value} {ds : List (DataW H)} {before : List MemPlace} {tb : TypeId}
    (hl : laidOutB P = true) (ht : (f.params.toList.all fun t => P.readableRec t && decide (t < P.types.size)) = true) (hr : f.resultTypes = #[tb]) (hu : P.underlying tb = some .bool) (hvs : s.vars = [])
    (hs : s.fn H (ds ++ []) = { results := [.lit (.bool true)], args := ds })
    (hW : DataW.Whole enc P f.params.toList s.vars false W args.toList ds [] before) (hb : Below W.heap.size W W') : s.post enc P f false true false false W args (.bool true) W' := by
  have hW' := hW
  have hlt := hW.lt
  obtain ⟨p, q, hA, hV, hpq, hfz, hnd⟩ := hW
  rw [hvs] at hV
  obtain ⟨_, rfl⟩ := trodVars_none hV
  refine ⟨ds, [], before, [], p, [], hW', ?_, ?_, ?_, hb.frame _, fun h => by cases h⟩
  · rw [hs, hr]
    exact trodAll_cons_mk (shut_bool hu _) trodAll_mk0
  · rw [hs]
    exact trodAll_below hl hb ht hA fun x hx => hlt x (by rw [hpq]; simp [hx])
  · rw [hs, hvs]
    rfl

set_option maxRecDepth 100000 in
/-- a value among the arguments. -/
theorem open_val {H : Type} {enc : TypeId × Value → H} {W : World} {base : Nat} {spare : Nat → Bool} {held : Bool} {b0 : Nat} {r : Reach} {v : Value} {d : DataW H} {p : List MemPlace} (hv : Value.okWide Tryz.prog W r b0 39 v)
    (h : DataW.Trod enc Tryz.prog W base spare held 39 v d p) :
    ∃ (k n : Int) (s : ByteArray), v = .agg #[.int .i64 k, .int .i64 n, .string s] ∧ s.size ≤ maxLen ∧ -9223372036854775808 ≤ n ∧ n ≤ 9223372036854775807 := by
  obtain ⟨c0, c1, c2, y0, y1, y2, m, rfl, _, _, t0, t1, t2⟩ := open_agg3 Tryz.underlying39 (by kernel_rfl) (by kernel_rfl) hv h
  obtain ⟨k, e0, _, _⟩ := DataW.trod_int Tryz.underlying37 t0
  obtain ⟨n, e1, _, w1⟩ := DataW.trod_int Tryz.underlying3 t1
  obtain ⟨s, e2, _, w2⟩ := DataW.trod_string Tryz.underlying9 t2
  simp only [List.cons.injEq, and_true] at e0 e1 e2
  subst e0 e1 e2
  have hw : -9223372036854775808 ≤ n ∧ n ≤ 9223372036854775807 := by
    simp [Lit.wf, IntKind.min, IntKind.max, IntKind.signed, IntKind.bits] at w1
    omega
  exact ⟨k, n, s, rfl, w2, hw⟩

end Go.Proofs.YtlfakhjcpdkaiaaGreatDoor

namespace Go.Proofs.YtlfakhjcpdkaiaaGreatDoor
open Go.Lib Go.RowKit

def strData {H : Type} (ls : List (List UInt8)) : DataW H := .agg (ls.map fun l => .lit (.string l))
theorem cells_of_strs {H : Type} {enc : TypeId × Value → H} {P : Program} {w : World} {base : Nat} {sp : Nat → Bool} {held : Bool} {fuel : Nat} {t e : TypeId} {n : Nat} {cs : List Value} {ls : List (List UInt8)} {p : List MemPlace}
    (ht : P.underlying t = some (.array n e)) (he : P.underlying e = some .string) (hce : P.cellsOf e = 1) (hct : P.cellsOf t = n)
    (h : DataW.trod enc P w base sp held fuel t cs = some (strData ls, p)) : cs = ls.map fun l => Value.string (bts l) := by
  cases fuel with
  | zero => simp [DataW.trod] at h
  | succ fuel =>
    simp only [DataW.trod, ht, hce, hct, Nat.mul_one] at h
    split at h
    · rename_i hl
      obtain ⟨xs, hm, hx⟩ := Option.map_eq_some_iff.1 h
      have hxs : xs.map (·.1) = ls.map fun l => (DataW.lit (.string l) : DataW H) := by
        have := congrArg Prod.fst hx
        simpa [strData] using this
      have hxl : xs.length = n := by simpa using mapM_length hm
      have hzl : ls.length = n := by
        have := congrArg List.length hxs
        simp at this
        omega
      apply List.ext_getElem?
      intro i
      by_cases hi : i < n
      · obtain ⟨b, hb, hf⟩ := mapM_at hm i i (by simp [hi])
        obtain ⟨s, hc, rfl, _⟩ := DataW.trod_string he hf
        have h1 : cs[i]? = some (.string s) := by
          have := congrArg (·[0]?) hc
          simpa [List.getElem?_take, List.getElem?_drop] using this
        have h2 : (xs.map (·.1))[i]? = some (DataW.lit (.string s.data.toList) : DataW H) := by simp [hb]
        rw [hxs] at h2
        simp only [List.getElem?_map, Option.map_eq_some_iff, DataW.lit.injEq, Lit.string.injEq] at h2
        obtain ⟨l, hl', e1⟩ := h2
        have e2 : bts l = s := by rw [e1]
        simp [h1, hl', e2]
      · rw [List.getElem?_eq_none (by omega), List.getElem?_eq_none (by simp; omega)]
    · cases h
theorem strs_of_head {P : Program} {W : World} {name : String} {ls : List (List UInt8)} {rest : List (String × DataW Unit)} {g : Nat} {t e : TypeId} {n : Nat}
    (hg : P.globalNamed name = some g) (hty : (P.globals[g]?).map (·.type) = some t) (ht : P.underlying t = some (.array n e)) (he : P.underlying e = some .string) (hce : P.cellsOf e = 1) (hct : P.cellsOf t = n)
    (h : laidMet P ((name, strData ls) :: rest) W) : ∀ (j : Nat) x, ls[j]? = some x → W.cell? ⟨g, j, none⟩ = some (.string (bts x)) := by
  obtain ⟨ps, ⟨g', t', cs, fuel, p, q, hg', ht', hvar, hd, _, _⟩, _⟩ := h
  obtain rfl := Option.some.inj (hg.symm.trans hg')
  obtain rfl := Option.some.inj (hty.symm.trans ht')
  intro j x hx
  have hc := World.var?_cell hg hvar j
  rw [hc]
  have := cells_of_strs ht he hce hct hd
  rw [← Array.getElem?_toList, this]
  simp [hx]

theorem gTabType : (Tryz.prog.globals[5]?).map (·.type) = some 198 := by kernel_rfl
theorem cellsT : Tryz.prog.cellsOf 198 = 20 := by kernel_rfl
theorem cellsE : Tryz.prog.cellsOf 178 = 1 := by kernel_rfl
theorem star : "*" ++ "errors.errorString" = "*errors.errorString" := by decide
theorem rowErr (u : TypeId) (h : Tryz.prog.typeName? 3 u = some "*errors.errorString") : u = 188 :=
  typeName_ptr_named (nm := "errors.errorString") (by rw [star]; kernel_rfl) (by kernel_rfl) (by decide) u (by rw [star]; exact h)
theorem gSynType : (Tryz.prog.globals[3]?).map (·.type) = some 162 := by kernel_rfl
theorem gRngType : (Tryz.prog.globals[4]?).map (·.type) = some 162 := by kernel_rfl
theorem cellsErr : Tryz.prog.cellsOf 190 = 1 := by kernel_rfl
theorem cellsStr : Tryz.prog.cellsOf 9 = 1 := by kernel_rfl
theorem gKeys : Tryz.prog.globalNamed "corollary/lex.keys" = some 1 := by kernel_rfl
theorem gSigns : Tryz.prog.globalNamed "corollary/lex.signs" = some 0 := by kernel_rfl
theorem gKeysType : (Tryz.prog.globals[1]?).map (·.type) = some 160 := by kernel_rfl
theorem gSignsType : (Tryz.prog.globals[0]?).map (·.type) = some 156 := by kernel_rfl
theorem cellsK : Tryz.prog.cellsOf 160 = 8 := by kernel_rfl
theorem cellsS : Tryz.prog.cellsOf 156 = 14 := by kernel_rfl
/-- the rows' laid variables, as the walks take them. -/
theorem lays {W : World} (h : laidMetH Tryz.prog Rows.termFormedRow.laid W) : Lays W := by
  have h2 := laidMet.tail (laidMet.tail h)
  have h3 := laidMet.tail h2
  have h5 := laidMet.tail (laidMet.tail h3)
  have h6 := laidMet.tail h5
  obtain ⟨a0, _, v0, _⟩ := laid_sentinel h3 gRng gRngType Tryz.underlying162 rowErr Tryz.underlying188 Tryz.underlying190 rfl rfl Tryz.underlying9 cellsErr cellsStr
  obtain ⟨a1, _, v1, _⟩ := laid_sentinel (laidMet.tail h3) gSyn gSynType Tryz.underlying162 rowErr Tryz.underlying188 Tryz.underlying190 rfl rfl Tryz.underlying9 cellsErr cellsStr
  exact ⟨strs_of_head (ls := keysL) (rest := _) gKeys gKeysType Tryz.underlying160 Tryz.underlying9 cellsStr cellsK h5, strs_of_head (ls := signsL) (rest := _) gSigns gSignsType Tryz.underlying156 Tryz.underlying9 cellsStr cellsS h6,
    Lib.tabIs_of_head (rest := _) gPow gTabType Tryz.underlying198 Tryz.underlying178 cellsE cellsT h2, ⟨_, _, v1⟩, ⟨_, _, v0⟩⟩
end Go.Proofs.YtlfakhjcpdkaiaaGreatDoor

set_option linter.unusedVariables false
set_option linter.unusedSimpArgs false
set_option maxRecDepth 100000
namespace Go.Proofs.YtlfakhjcpdkaiaaGreatDoor
open Go.ChangeShapes Go.WideShapes Go.ChangeAt Go.RowKit Go.Joins Go.Deep

theorem weights_all {H : Type} {P : Program} {e : TypeId} {d : DataW H} {n : Nat} : ∀ {ds : List (DataW H)}, d ∈ ds → n ∈ d.weights P e → n ∈ DataW.weightsAll P e ds
  | x :: r, hd, hn => by
    simp only [DataW.weightsAll, List.mem_append]
    rcases List.mem_cons.1 hd with rfl | hd
    · exact .inl hn
    · exact .inr (weights_all hd hn)
theorem cell_plain {w : World} {a : Addr} {v : Value} (h : w.cell? a = some v) : a.spot = none ∧ a.block < w.heap.size := by
  have hb := World.block_lt_of_cell? w a h
  refine ⟨?_, hb⟩
  unfold World.cell? at h
  split at h
  · split at h
    · cases h
    · rename_i hs
      simpa using hs
  · cases h
theorem add_at {b o n : Nat} : Addr.add ⟨b, o, none⟩ n = ⟨b, o + n, none⟩ := by
  unfold Addr.add
  split
  · subst n; rfl
  · rfl
theorem choose_row {α : Type} {n : Nat} {p : Nat → α → Prop} (h : ∀ i, i < n → ∃ y, p i y) : ∃ l : List α, l.length = n ∧ ∀ i y, l[i]? = some y → p i y := by
  obtain ⟨f, hf⟩ : ∃ f : (i : Nat) → i < n → α, ∀ i hi, p i (f i hi) := ⟨fun i hi => (h i hi).choose, fun i hi => (h i hi).choose_spec⟩
  refine ⟨List.ofFn fun i : Fin n => f i.1 i.2, by simp, fun i y hy => ?_⟩
  rw [List.getElem?_eq_some_iff] at hy
  obtain ⟨hi, hy⟩ := hy
  simp only [List.getElem_ofFn] at hy
  subst hy
  exact hf _ _
theorem kcTm : Tryz.prog.cellsOf 41 = 4 := by kernel_rfl
theorem kcV : Tryz.prog.cellsOf 39 = 3 := by kernel_rfl
theorem kcK : Tryz.prog.cellsOf 37 = 1 := by kernel_rfl
theorem kcLk : Tryz.prog.cellsOf 45 = 1 := by kernel_rfl
theorem kcN : Tryz.prog.cellsOf 3 = 1 := by kernel_rfl
theorem kcSt : Tryz.prog.cellsOf 9 = 1 := by kernel_rfl
theorem kcEx : Tryz.prog.cellsOf 48 = 6 := by kernel_rfl
theorem kcAm : Tryz.prog.cellsOf 44 = 2 := by kernel_rfl
theorem kcLt : Tryz.prog.cellsOf 50 = 17 := by kernel_rfl
theorem kcRu : Tryz.prog.cellsOf 54 = 6 := by kernel_rfl
theorem kcDe : Tryz.prog.cellsOf 62 = 3 := by kernel_rfl
theorem kcPg : Tryz.prog.cellsOf 25 = 2 := by kernel_rfl
theorem kcS1 : Tryz.prog.cellsOf 42 = 1 := by kernel_rfl
theorem kcS2 : Tryz.prog.cellsOf 46 = 1 := by kernel_rfl
theorem kcS3 : Tryz.prog.cellsOf 52 = 1 := by kernel_rfl
theorem kcS4 : Tryz.prog.cellsOf 23 = 1 := by kernel_rfl
theorem kcS5 : Tryz.prog.cellsOf 22 = 1 := by kernel_rfl
theorem kcS6 : Tryz.prog.cellsOf 60 = 1 := by kernel_rfl

section
variable {H : Type} {enc : TypeId × Value → H} {W : World} {base : Nat} {sp : Nat → Bool} {held : Bool}
/-- each of a datum's blocks is within the reach. -/
def Rch (t : TypeId) (d : DataW H) : Prop := ∀ n ∈ d.weights Tryz.prog t, n ≤ 140737488351232
/-- the parts of a struct. -/
theorem tr_flds {t : TypeId} {fs : Array Field} {fuel : Nat} {cs : List Value} {x : DataW H × List MemPlace} (hu : Tryz.prog.underlying t = some (.struct fs)) (h : DataW.trod enc Tryz.prog W base sp held fuel t cs = some x) (hw : Rch t x.1) :
    ∃ n, fuel = n + 1 ∧ cs.length = Tryz.prog.cellsOf t ∧ ∀ (i : Nat) f, fs[i]? = some f → ∃ y, DataW.trod enc Tryz.prog W base sp held n f.type ((cs.drop f.offset).take (Tryz.prog.cellsOf f.type)) = some y ∧ Rch f.type y.1 := by
  obtain ⟨xs, n, hn, rfl, hl, hxl, hf⟩ := DataW.trod_struct hu h
  refine ⟨n, hn, hl, fun i f hi => ?_⟩
  have hlt : i < xs.length := by
    rw [hxl]
    exact (Array.getElem?_eq_some_iff.1 hi).1
  refine ⟨xs[i], (hf i f hi).trans (List.getElem?_eq_getElem hlt), fun m hm => hw m ?_⟩
  simp only [DataW.weights, hu]
  exact DataW.weights_mem_each (j := i) (by simp [hi]) (by simp [List.getElem?_eq_getElem hlt]) m hm
theorem tr_str {fuel : Nat} {cs : List Value} {x : DataW H × List MemPlace} (h : DataW.trod enc Tryz.prog W base sp held fuel 9 cs = some x) (hw : Rch 9 x.1) : ∃ s : ByteArray, cs = [.string s] ∧ s.size ≤ 140737488351232 := by
  obtain ⟨s, e2, e3, _⟩ := DataW.trod_string Tryz.underlying9 h
  refine ⟨s, e2, hw _ ?_⟩
  rw [e3]
  simp [DataW.weights]
theorem tr_int {t : TypeId} (hu : Tryz.prog.underlying t = some (.int .i64)) {fuel : Nat} {cs : List Value} {x : DataW H × List MemPlace} (h : DataW.trod enc Tryz.prog W base sp held fuel t cs = some x) : ∃ z : Int, cs = [.int .i64 z] ∧ -9223372036854775808 ≤ z ∧ z ≤ 9223372036854775807 := by
  obtain ⟨z, e0, _, hz⟩ := DataW.trod_int hu h
  refine ⟨z, e0, ?_⟩
  simp only [Lit.wf, Bool.and_eq_true, decide_eq_true_eq] at hz
  exact hz
theorem cells_at {b o K : Nat} {cs : List Value} (h : W.cells? base ⟨b, o, none⟩ K = some cs) : cs.length = K ∧ ∀ i, i < K → W.cell? ⟨b, o + i, none⟩ = cs[i]? := by
  obtain ⟨_, h1, h2⟩ := World.cells?_some h
  exact ⟨h1, fun i hi => by rw [← h2 i hi, add_at]⟩
/-- a row of things. -/
theorem tr_row {α : Type} {S E : TypeId} {K fuel : Nat} (Q : World → Nat → Nat → α → Prop) (hu : Tryz.prog.underlying S = some (.slice E)) (hK : Tryz.prog.cellsOf E = K) (hK0 : 0 < K) (hB : 0 < Tryz.prog.bytesOf E)
    (hel : ∀ n b o cs x, n < fuel → W.cells? base ⟨b, o, none⟩ K = some cs → DataW.trod enc Tryz.prog W base sp held n E cs = some x → Rch E x.1 → ∃ y, Q W b o y)
    {cs : List Value} {x : DataW H × List MemPlace} (h : DataW.trod enc Tryz.prog W base sp held fuel S cs = some x) (hw : Rch S x.1) :
    ∃ (A : Option Addr) (c : Nat) (l : List α), cs = [.slice A l.length c] ∧ Rg K Q W A l := by
  rcases DataW.trod_slice hu h with ⟨rfl, _⟩ | ⟨a, len, cap, elems, rest, n, hn, rfl, rfl, hb, hl, hm, hlen, hel', _, _⟩
  · exact ⟨none, 0, [], rfl, Rg.nil⟩
  · rw [hK] at hel'
    have hle : len ≤ 140737488351232 := by
      refine Nat.le_trans ?_ (hw ((elems.length + rest.length) * Tryz.prog.bytesOf E) (by simp [DataW.weights, hu]))
      rw [hlen]
      exact Nat.le_trans (Nat.le_add_right _ _) (Nat.le_mul_of_pos_right _ hB)
    by_cases h0 : len = 0
    · subst h0
      exact ⟨some a, cap, [], rfl, Rg.nil⟩
    · have hat : ∀ i, i < len → ∃ cs' y, W.cells? base (a.add (i * K)) K = some cs' ∧ DataW.trod enc Tryz.prog W base sp held n E cs' = some y ∧ Rch E y.1 := fun i hi => by
        have h1 := hel' i hi
        rw [List.getElem?_eq_getElem (by omega)] at h1
        obtain ⟨cs', h2, h3⟩ := Option.bind_eq_some_iff.1 h1
        refine ⟨cs', _, h2, h3, fun m hm => hw m ?_⟩
        simp only [DataW.weights, hu, List.mem_cons, List.mem_append]
        exact .inr (.inl (weights_all (List.mem_map.2 ⟨_, List.getElem_mem (by omega), rfl⟩) hm))
      obtain ⟨cs0, _, h2, _⟩ := hat 0 (by omega)
      obtain ⟨_, hl0, hc0⟩ := World.cells?_some h2
      have hc0 := hc0 0 hK0
      rw [List.getElem?_eq_getElem (by omega)] at hc0
      obtain ⟨hs0, hb0⟩ := cell_plain hc0
      obtain ⟨ab, ao, asp⟩ := a
      have hsp : asp = none := by simpa [Addr.add] using hs0
      subst hsp
      have hb1 : ab < W.heap.size := by simpa [Addr.add] using hb0
      obtain ⟨l, hll, hf⟩ := choose_row (n := len) (p := fun i y => Q W ab (ao + i * K) y) fun i hi => by
        obtain ⟨cs', y, h2, h3, h4⟩ := hat i hi
        rw [add_at] at h2
        exact hel n _ _ cs' y (by omega) h2 h3 h4
      subst hll
      exact ⟨_, cap, l, rfl, hle, fun _ => ⟨ab, ao, rfl, hb1, hf⟩⟩

theorem tr_tm {fuel : Nat} {cs : List Value} {x : DataW H × List MemPlace} (h : DataW.trod enc Tryz.prog W base sp held fuel 41 cs = some x) (hw : Rch 41 x.1) :
    ∃ t : TTm, cs = [.string t.v, .int .i64 t.k, .int .i64 t.n, .string t.s] ∧ okTm t := by
  obtain ⟨n, _, hl, hf⟩ := tr_flds Tryz.underlying41 h hw
  rw [kcTm] at hl
  match cs, hl with
  | [v0, v1, v2, v3], _ =>
    obtain ⟨y0, g0, r0⟩ := hf 0 _ rfl
    obtain ⟨y1, g1, r1⟩ := hf 1 _ rfl
    simp [kcSt, kcV] at g0 g1
    obtain ⟨s, e0, l0⟩ := tr_str g0 r0
    obtain ⟨m, _, _, hg⟩ := tr_flds Tryz.underlying39 g1 r1
    obtain ⟨z0, k0, q0⟩ := hg 0 _ rfl
    obtain ⟨z1, k1, q1⟩ := hg 1 _ rfl
    obtain ⟨z2, k2, q2⟩ := hg 2 _ rfl
    simp [kcK, kcN, kcSt] at k0 k1 k2
    obtain ⟨a, e1, _⟩ := tr_int Tryz.underlying37 k0
    obtain ⟨b, e2, _⟩ := tr_int Tryz.underlying3 k1
    obtain ⟨c, e3, l3⟩ := tr_str k2 q2
    simp at e0 e1 e2 e3
    subst e0 e1 e2 e3
    exact ⟨⟨s, a, b, c⟩, rfl, l0, l3⟩
theorem el_tm {n b o : Nat} {cs : List Value} {x : DataW H × List MemPlace} (hc : W.cells? base ⟨b, o, none⟩ 4 = some cs) (h : DataW.trod enc Tryz.prog W base sp held n 41 cs = some x) (hw : Rch 41 x.1) : ∃ t, TmC W b o t := by
  obtain ⟨t, rfl, ho⟩ := tr_tm h hw
  obtain ⟨_, h1⟩ := cells_at hc
  exact ⟨t, h1 0 (by omega), h1 1 (by omega), h1 2 (by omega), h1 3 (by omega), ho⟩
theorem tr_ex : ∀ (fuel : Nat) {cs : List Value} {x : DataW H × List MemPlace}, DataW.trod enc Tryz.prog W base sp held fuel 48 cs = some x → Rch 48 x.1 →
    ∃ (e : TEx) (A : Option Addr) (c : Nat), cs = [.int .i64 e.op, .string e.t.v, .int .i64 e.t.k, .int .i64 e.t.n, .string e.t.s, .slice A e.kids.length c] ∧ ExV W e A := by
  intro fuel
  induction fuel using Nat.strongRecOn with
  | _ fuel ih =>
    intro cs x h hw
    obtain ⟨n, hn, hl, hf⟩ := tr_flds Tryz.underlying48 h hw
    rw [kcEx] at hl
    match cs, hl with
    | [v0, v1, v2, v3, v4, v5], _ =>
      obtain ⟨y0, g0, r0⟩ := hf 0 _ rfl
      obtain ⟨y1, g1, r1⟩ := hf 1 _ rfl
      obtain ⟨y2, g2, r2⟩ := hf 2 _ rfl
      simp [kcN, kcTm, kcS2] at g0 g1 g2
      obtain ⟨z, e0, _⟩ := tr_int Tryz.underlying3 g0
      obtain ⟨t, e1, ht⟩ := tr_tm g1 r1
      obtain ⟨A, c, l, e2, hR⟩ := tr_row (K := 6) ExC Tryz.underlying46 kcEx (by decide) (by decide +kernel) (fun m b o cs' y hm hc hy hyw => by
        obtain ⟨e, A, c, e1, he⟩ := ih m (by omega) hy hyw
        subst e1
        obtain ⟨_, h1⟩ := cells_at hc
        exact ⟨e, ExC.shut (h1 0 (by omega)) (h1 1 (by omega)) (h1 2 (by omega)) (h1 3 (by omega)) (h1 4 (by omega)) (h1 5 (by omega)) he⟩) g2 r2
      simp at e0 e1 e2
      obtain ⟨e11, e12, e13, e14⟩ := e1
      subst e0 e11 e12 e13 e14 e2
      exact ⟨.mk z t l, A, c, rfl, ht, hR⟩
theorem tr_am {fuel : Nat} {cs : List Value} {x : DataW H × List MemPlace} (h : DataW.trod enc Tryz.prog W base sp held fuel 44 cs = some x) (hw : Rch 44 x.1) :
    ∃ (a : TAm) (A : Option Addr) (c : Nat), cs = [.string a.rel, .slice A a.args.length c] ∧ AmV W a A := by
  obtain ⟨n, _, hl, hf⟩ := tr_flds Tryz.underlying44 h hw
  rw [kcAm] at hl
  match cs, hl with
  | [v0, v1], _ =>
    obtain ⟨y0, g0, r0⟩ := hf 0 _ rfl
    obtain ⟨y1, g1, r1⟩ := hf 1 _ rfl
    simp [kcSt, kcS1] at g0 g1
    obtain ⟨s, e0, l0⟩ := tr_str g0 r0
    obtain ⟨A, c, l, e1, hR⟩ := tr_row (K := 4) TmC Tryz.underlying42 kcTm (by decide) (by decide +kernel) (fun m b o cs' y _ hc hy hyw => el_tm hc hy hyw) g1 r1
    simp at e0 e1
    subst e0 e1
    exact ⟨⟨s, l⟩, A, c, rfl, l0, hR⟩
theorem tr_lt {fuel : Nat} {cs : List Value} {x : DataW H × List MemPlace} (h : DataW.trod enc Tryz.prog W base sp held fuel 50 cs = some x) (hw : Rch 50 x.1) :
    ∃ (y : TLt) (A : Option Addr) (c : Nat) (L : Option Addr) (d : Nat) (R : Option Addr) (f : Nat), cs = [.int .i64 y.kind, .string y.atom.rel, .slice A y.atom.args.length c, .int .i64 y.op, .int .i64 y.left.op, .string y.left.t.v, .int .i64 y.left.t.k, .int .i64 y.left.t.n, .string y.left.t.s, .slice L y.left.kids.length d,
    .int .i64 y.right.op, .string y.right.t.v, .int .i64 y.right.t.k, .int .i64 y.right.t.n, .string y.right.t.s, .slice R y.right.kids.length f, .int .i64 y.pos] ∧ LtV W y A L R := by
  obtain ⟨n, _, hl, hf⟩ := tr_flds Tryz.underlying50 h hw
  rw [kcLt] at hl
  match cs, hl with
  | [v0, v1, v2, v3, v4, v5, v6, v7, v8, v9, v10, v11, v12, v13, v14, v15, v16], _ =>
    obtain ⟨y0, g0, r0⟩ := hf 0 _ rfl
    obtain ⟨y1, g1, r1⟩ := hf 1 _ rfl
    obtain ⟨y2, g2, r2⟩ := hf 2 _ rfl
    obtain ⟨y3, g3, r3⟩ := hf 3 _ rfl
    obtain ⟨y4, g4, r4⟩ := hf 4 _ rfl
    obtain ⟨y5, g5, r5⟩ := hf 5 _ rfl
    simp [kcN, kcLk, kcAm, kcEx] at g0 g1 g2 g3 g4 g5
    obtain ⟨k, e0, lo, hi⟩ := tr_int Tryz.underlying45 g0
    obtain ⟨a, A, c, e1, ha⟩ := tr_am g1 r1
    obtain ⟨p, e2, _⟩ := tr_int Tryz.underlying3 g2
    obtain ⟨l, L, d, e3, hL⟩ := tr_ex _ g3 r3
    obtain ⟨r, R, f, e4, hR⟩ := tr_ex _ g4 r4
    obtain ⟨q, e5, _⟩ := tr_int Tryz.underlying3 g5
    simp at e0 e1 e2 e3 e4 e5
    obtain ⟨e10, e11⟩ := e1
    obtain ⟨e30, e31, e32, e33, e34, e35⟩ := e3
    obtain ⟨e40, e41, e42, e43, e44, e45⟩ := e4
    subst e0 e10 e11 e2 e30 e31 e32 e33 e34 e35 e40 e41 e42 e43 e44 e45 e5
    exact ⟨⟨k, a, p, l, r, q⟩, A, c, L, d, R, f, rfl, ha, hL, hR, lo, hi⟩
theorem el_lt {n b o : Nat} {cs : List Value} {x : DataW H × List MemPlace} (hc : W.cells? base ⟨b, o, none⟩ 17 = some cs) (h : DataW.trod enc Tryz.prog W base sp held n 50 cs = some x) (hw : Rch 50 x.1) : ∃ t, LtC W b o t := by
  obtain ⟨t, A, c, L, d, R, f, rfl, hv⟩ := tr_lt h hw
  obtain ⟨_, h1⟩ := cells_at hc
  exact ⟨t, LtC.shut (A := A) (c := c) (L := L) (d := d) (R := R) (f := f) ⟨h1 0 (by omega), h1 1 (by omega), h1 2 (by omega), h1 3 (by omega), ⟨h1 4 (by omega), h1 5 (by omega), h1 6 (by omega), h1 7 (by omega), h1 8 (by omega), h1 9 (by omega)⟩,
    ⟨h1 10 (by omega), h1 11 (by omega), h1 12 (by omega), h1 13 (by omega), h1 14 (by omega), h1 15 (by omega)⟩, h1 16 (by omega)⟩ hv⟩
theorem el_ru {n b o : Nat} {cs : List Value} {x : DataW H × List MemPlace} (hc : W.cells? base ⟨b, o, none⟩ 6 = some cs) (h : DataW.trod enc Tryz.prog W base sp held n 54 cs = some x) (hw : Rch 54 x.1) : ∃ t, RuC W b o t := by
  obtain ⟨_, h1⟩ := cells_at hc
  obtain ⟨n, _, hl, hf⟩ := tr_flds Tryz.underlying54 h hw
  rw [kcRu] at hl
  match cs, hl with
  | [v0, v1, v2, v3, v4, v5], _ =>
    obtain ⟨y0, g0, r0⟩ := hf 0 _ rfl
    obtain ⟨y1, g1, r1⟩ := hf 1 _ rfl
    obtain ⟨y2, g2, r2⟩ := hf 2 _ rfl
    obtain ⟨y3, g3, r3⟩ := hf 3 _ rfl
    obtain ⟨y4, g4, r4⟩ := hf 4 _ rfl
    simp [kcN, kcAm, kcS3] at g0 g1 g2 g3 g4
    obtain ⟨a, A, c, e0, ha⟩ := tr_am g0 r0
    obtain ⟨p, e1, _⟩ := tr_int Tryz.underlying3 g1
    obtain ⟨q, e2, _⟩ := tr_int Tryz.underlying3 g2
    obtain ⟨B, d, l, e3, hR⟩ := tr_row (K := 17) LtC Tryz.underlying52 kcLt (by decide) (by decide +kernel) (fun m b o cs' y _ hc hy hyw => el_lt hc hy hyw) g3 r3
    obtain ⟨r, e4, _⟩ := tr_int Tryz.underlying3 g4
    simp at e0 e1 e2 e3 e4
    obtain ⟨e00, e01⟩ := e0
    subst e00 e01 e1 e2 e3 e4
    exact ⟨⟨a, p, q, l, r⟩, RuC.shut (A := A) (c := c) (B := B) (d := d) (h1 0 (by omega)) (h1 1 (by omega)) (h1 2 (by omega)) (h1 3 (by omega)) (h1 4 (by omega)) (h1 5 (by omega)) ⟨ha, hR⟩⟩
theorem el_de {n b o : Nat} {cs : List Value} {x : DataW H × List MemPlace} (hc : W.cells? base ⟨b, o, none⟩ 3 = some cs) (h : DataW.trod enc Tryz.prog W base sp held n 62 cs = some x) (hw : Rch 62 x.1) : ∃ t, DeC W b o t := by
  obtain ⟨_, h1⟩ := cells_at hc
  obtain ⟨n, _, hl, hf⟩ := tr_flds Tryz.underlying62 h hw
  rw [kcDe] at hl
  match cs, hl with
  | [v0, v1, v2], _ =>
    obtain ⟨y0, g0, r0⟩ := hf 0 _ rfl
    obtain ⟨y1, g1, r1⟩ := hf 1 _ rfl
    obtain ⟨y2, g2, r2⟩ := hf 2 _ rfl
    simp [kcN, kcSt, kcS6] at g0 g1 g2
    obtain ⟨s, e0, l0⟩ := tr_str g0 r0
    obtain ⟨A, c, l, e1, hR⟩ := tr_row (K := 1) IntC Tryz.underlying60 kcK (by decide) (by decide +kernel) (fun m b o cs' y _ hc hy hyw => by
      obtain ⟨z, rfl, _⟩ := tr_int Tryz.underlying37 hy
      obtain ⟨_, h1⟩ := cells_at hc
      exact ⟨z, h1 0 (by omega)⟩) g1 r1
    obtain ⟨r, e2, _⟩ := tr_int Tryz.underlying3 g2
    simp at e0 e1 e2
    subst e0 e1 e2
    exact ⟨⟨s, l, r⟩, h1 0 (by omega), ⟨A, c, h1 1 (by omega), hR⟩, h1 2 (by omega), l0⟩
theorem tr_pg {fuel : Nat} {cs : List Value} {x : DataW H × List MemPlace} (h : DataW.trod enc Tryz.prog W base sp held fuel 25 cs = some x) (hw : Rch 25 x.1) :
    ∃ (p : TPg) (A : Option Addr) (c : Nat) (B : Option Addr) (d : Nat), cs = [.slice A p.decls.length c, .slice B p.rules.length d] ∧ PgV W p A B := by
  obtain ⟨n, _, hl, hf⟩ := tr_flds Tryz.underlying25 h hw
  rw [kcPg] at hl
  match cs, hl with
  | [v0, v1], _ =>
    obtain ⟨y0, g0, r0⟩ := hf 0 _ rfl
    obtain ⟨y1, g1, r1⟩ := hf 1 _ rfl
    simp [kcS4, kcS5] at g0 g1
    obtain ⟨A, c, l, e0, hA⟩ := tr_row (K := 3) DeC Tryz.underlying22 kcDe (by decide) (by decide +kernel) (fun m b o cs' y _ hc hy hyw => el_de hc hy hyw) g0 r0
    obtain ⟨B, d, m, e1, hB⟩ := tr_row (K := 6) RuC Tryz.underlying23 kcRu (by decide) (by decide +kernel) (fun m b o cs' y _ hc hy hyw => el_ru hc hy hyw) g1 r1
    simp at e0 e1
    subst e0 e1
    exact ⟨⟨l, m⟩, A, c, B, d, rfl, hA, hB⟩
theorem open_pg {b0 : Nat} {r : Reach} {v : Value} {d : DataW H} {p : List MemPlace} (hv : Value.okWide Tryz.prog W r b0 25 v) (h : DataW.Trod enc Tryz.prog W base sp held 25 v d p) (hs : ∀ n ∈ d.weights Tryz.prog 25, n ≤ reachBytes) :
    ∃ (q : TPg) (A : Option Addr) (c : Nat) (B : Option Addr) (e : Nat), v = pgV q A c B e ∧ PgV W q A B := by
  obtain ⟨cs, rfl, _⟩ := okWide_struct Tryz.underlying25 hv
  obtain ⟨fuel, hf⟩ := h
  have hf : DataW.trod enc Tryz.prog W base sp held fuel 25 cs.toList = some (d, p) := hf
  obtain ⟨q, A, c, B, e, h1, h2⟩ := tr_pg hf hs
  obtain ⟨cs⟩ := cs
  simp only at h1
  subst h1
  exact ⟨q, A, c, B, e, rfl, h2⟩
theorem open_ex {b0 : Nat} {r : Reach} {v : Value} {d : DataW H} {p : List MemPlace} (hv : Value.okWide Tryz.prog W r b0 48 v) (h : DataW.Trod enc Tryz.prog W base sp held 48 v d p) (hs : ∀ n ∈ d.weights Tryz.prog 48, n ≤ reachBytes) :
    ∃ (e : TEx) (A : Option Addr) (c : Nat), v = exV e A c ∧ ExV W e A := by
  obtain ⟨cs, rfl, _⟩ := okWide_struct Tryz.underlying48 hv
  obtain ⟨fuel, hf⟩ := h
  have hf : DataW.trod enc Tryz.prog W base sp held fuel 48 cs.toList = some (d, p) := hf
  obtain ⟨e, A, c, h1, h2⟩ := tr_ex _ hf hs
  obtain ⟨cs⟩ := cs
  simp only at h1
  subst h1
  exact ⟨e, A, c, rfl, h2⟩
end
end Go.Proofs.YtlfakhjcpdkaiaaGreatDoor

set_option linter.unusedVariables false
set_option linter.unusedSimpArgs false
namespace Go.Proofs.YtlfakhjcpdkaiaaGreatDoor
open Go.RowKit Go.Deep Go.Shelf

set_option maxRecDepth 100000 in
set_option maxHeartbeats 4000000 in
theorem refPg_is (p : TPg) (A : Option Addr) (c : Nat) (B : Option Addr) (d : Nat) (w : World) (hV : PgV w p A B) :
    Calls Tryz.prog 8 #[pgV p A c B d] w fun e w' => e = .returned (.bool (formedB p)) ∧ Below w.heap.size w w' := by
  unfold pgV
  have H : Hid (formedB p = ((decide (p.decls.length ≤ 32) && p.decls.all rightDe) && (decide (p.rules.length ≤ 64) && p.rules.all rightRu))) := rfl
  have hO : Own (w.alloc (.cells #[.slice A p.decls.length c, .slice B p.rules.length d] 31)) w.heap.size 31 [.slice A p.decls.length c, .slice B p.rules.length d] := heap_alloc_new _ _
  have HO := Lib.hid hO
  have HB0 : Hid (Below w.heap.size w (w.alloc (.cells #[.slice A p.decls.length c, .slice B p.rules.length d] 31))) := (Below.refl w.heap.size w).alloc (Nat.le_refl _) _
  have HVD := Lib.hid hV.decls
  have HVR := Lib.hid hV.rules
  have hdl := hV.decls.1
  have hrl := hV.rules.1
  have hb0 := HB0.out
  clear hV hO
  by_cases h32 : p.decls.length ≤ 32
  · have e32 : decide (32 < p.decls.length) = false := by simp; omega
    have e32i : decide ((32 : Int) < (p.decls.length : Int)) = false := by simp; omega
    by_cases h64 : p.rules.length ≤ 64
    · have e64 : decide (64 < p.rules.length) = false := by simp; omega
      have e64i : decide ((64 : Int) < (p.rules.length : Int)) = false := by simp; omega
      have H2 : Hid (formedB p = (p.decls.all rightDe && p.rules.all rightRu)) := by show _ = _; rw [H.out, decide_eq_true h32, decide_eq_true h64, Bool.true_and, Bool.true_and]
      clear H h32 h64 hb0
      go_enter Tryz.func8, Tryz.ntmps8
      go_wp2_with fail
      generalize hW0 : w.alloc (.cells #[.slice A p.decls.length c, .slice B p.rules.length d] 31) = W0 at HO HB0 ⊢
      obtain ⟨b1, hb1⟩ : ∃ b, b = w.heap.size := ⟨_, rfl⟩
      rw [← hb1] at HO
      rw [show (Value.pointer (some ⟨w.heap.size, 0, none⟩)) = .pointer (some ⟨b1, 0, none⟩) by rw [hb1]]
      clear hW0 hb1 e32 e32i e64 e64i
      go_loopw [3] (fun i wr => ∃ j : Nat, j ≤ p.decls.length ∧ i = .int .i64 j ∧ Hid (p.decls.all rightDe = (p.decls.drop j).all rightDe) ∧ Hid (Below W0.heap.size W0 wr)) (fun i _ => p.decls.length - (intOf i).toNat)
      case atStart => exact ⟨0, Nat.zero_le _, rfl, Lib.hid rfl, Lib.hid (Below.refl _ _)⟩
      case round =>
        obtain ⟨j, hj, rfl, HX, HB⟩ := hrel
        have HOr := HO.out.below HB.out
        have c0 := HOr.cell 0
        have c1 := HOr.cell 1
        simp only [List.getElem?_cons_zero, List.getElem?_cons_succ] at c0 c1
        have cq := HOr.lt
        clear HOr
        by_cases hlt : j < p.decls.length
        · obtain ⟨g, o, hA, hgw, d0, ⟨A1, c1, d1, hkr⟩, d2, hok⟩ := HVD.out.at_ hlt
          have d0 := ((HB0.out.trans (HB.out.mono HB0.out.size)).cell (p := ⟨g, _, none⟩) hgw).trans d0
          have d1 := ((HB0.out.trans (HB.out.mono HB0.out.size)).cell (p := ⟨g, _, none⟩) hgw).trans d1
          have d2 := ((HB0.out.trans (HB.out.mono HB0.out.size)).cell (p := ⟨g, _, none⟩) hgw).trans d2
          have HS : Hid ((p.decls.drop j).all rightDe = (rightDe p.decls[j] && (p.decls.drop (j + 1)).all rightDe)) := by show _ = _; rw [List.drop_eq_getElem_cons hlt, List.all_cons]
          have HE := Lib.hid (HX.out.trans HS.out)
          have HDe : Hid (rightDe p.decls[j] = (soleB 2 p.decls[j].rel && (decide (p.decls[j].kinds.length ≤ 6) && p.decls[j].kinds.all kindB))) := rfl
          have HKR := Lib.hid (hkr.int (Pers.of (HB0.out.trans (HB.out.mono HB0.out.size))))
          have hkl := hkr.1
          have C : Hid (∀ W, Calls Tryz.prog 21 #[.string p.decls[j].rel] W fun e w' => e = .returned (.bool (soleB 2 p.decls[j].rel)) ∧ Below W.heap.size W w') := fun W => refNamed_is p.decls[j].rel _ W rfl hok
          clear HS HX hok hkr
          subst hA
          generalize p.decls[j] = y at *
          have HBx : Hid (Own (wr.alloc (.cells #[.string y.rel, .slice A1 y.kinds.length c1, .int .i64 y.pos] 64)) wr.heap.size 64 [.string y.rel, .slice A1 y.kinds.length c1, .int .i64 y.pos]) := heap_alloc_new _ _
          have HB1 : Hid (Below W0.heap.size W0 (wr.alloc (.cells #[.string y.rel, .slice A1 y.kinds.length c1, .int .i64 y.pos] 64))) := HB.out.alloc HB.out.size _
          have HLw : Hid (Below wr.heap.size wr (wr.alloc (.cells #[.string y.rel, .slice A1 y.kinds.length c1, .int .i64 y.pos] 64))) := (Below.refl _ _).alloc (Nat.le_refl _) _
          generalize soleB 2 y.rel = vN at C HDe
          cases vN with
          | false =>
            have HF : Hid (formedB p = false) := by show _ = _; rw [H2.out, HE.out, HDe.out]; simp only [Bool.false_and]
            clear HE HDe
            go_wp2_with fail
            refine (C.out _).mono ?_
            rintro e w2 ⟨rfl, hb⟩
            have HBF := Lib.hid (HB0.out.trans ((HB1.out.trans (hb.mono HB1.out.size)).mono HB0.out.size))
            clear hb
            go_wp2_with fail
            go_ret
            exact ⟨by rw [HF.out]; rfl, HBF.out⟩
          | true =>
            rw [Bool.true_and] at HDe
            by_cases h6 : y.kinds.length ≤ 6
            · have e6 : decide (6 < y.kinds.length) = false := by simp; omega
              have e6i : decide ((6 : Int) < (y.kinds.length : Int)) = false := by simp; omega
              rw [decide_eq_true h6, Bool.true_and] at HDe
              clear h6
              go_wp2_with fail
              refine (C.out _).mono ?_
              rintro e w2 ⟨rfl, hb⟩
              have HB2 : Hid (Below W0.heap.size W0 w2) := HB1.out.trans (hb.mono HB1.out.size)
              have HL2 : Hid (Below wr.heap.size wr w2) := HLw.out.trans (hb.mono HLw.out.size)
              have HO2 := Lib.hid (HBx.out.below hb)
              have x1 := HO2.out.cell 1
              simp only [List.getElem?_cons_zero, List.getElem?_cons_succ] at x1
              clear hb
              obtain ⟨b4, hb4⟩ : ∃ b, b = wr.heap.size := ⟨_, rfl⟩
              rw [← hb4] at HO2
              go_wp2_with fail
              rw [← hb4]
              clear x1 hb4 e6 e6i
              obtain ⟨wq, hwq⟩ : ∃ wq, wq = wr := ⟨_, rfl⟩
              subst hwq
              go_loopw [5] (fun i wr => ∃ k : Nat, k ≤ y.kinds.length ∧ i = .int .i64 k ∧ Hid (y.kinds.all kindB = (y.kinds.drop k).all kindB) ∧ Hid (Below w2.heap.size w2 wr)) (fun i _ => y.kinds.length - (intOf i).toNat)
              case atStart => exact ⟨0, Nat.zero_le _, rfl, Lib.hid rfl, Lib.hid (Below.refl _ _)⟩
              case round =>
                obtain ⟨k, hk, rfl, HXk, HBk⟩ := hrel
                have HOk := HO2.out.below HBk.out
                have x1 := HOk.cell 1
                simp only [List.getElem?_cons_zero, List.getElem?_cons_succ] at x1
                have xq := HOk.lt
                clear HOk
                have HBF := Lib.hid (HB0.out.trans ((HB2.out.trans (HBk.out.mono HB2.out.size)).mono HB0.out.size))
                by_cases hkt : k < y.kinds.length
                · obtain ⟨g2, o2, hA2, hgw2, m0⟩ := HKR.out.at_ hkt
                  have m0 := ((HL2.out.trans (HBk.out.mono HL2.out.size)).cell (p := ⟨g2, _, none⟩) hgw2).trans m0
                  rw [Nat.mul_one] at m0
                  have HSk : Hid ((y.kinds.drop k).all kindB = (kindB y.kinds[k] && (y.kinds.drop (k + 1)).all kindB)) := by show _ = _; rw [List.drop_eq_getElem_cons hkt, List.all_cons]
                  have HEk := Lib.hid (HXk.out.trans HSk.out)
                  clear HXk HSk
                  subst hA2
                  generalize y.kinds[k] = z at *
                  by_cases hz1 : z = 1
                  · have q1 : (z != 1) = false := by simp [hz1]
                    have q1' : (z == 1) = true := by simp [hz1]
                    have hkb : kindB z = true := by unfold kindB; exact decide_eq_true (.inl hz1)
                    rw [hkb, Bool.true_and] at HEk
                    clear hkb hz1
                    go_wp2_with fail
                    go_roundw
                    case rel => exact ⟨k + 1, by omega, by go_num, HEk, HBk⟩
                    case measure => simp [intOf]; omega
                  · have q1 : (z != 1) = true := by simp [hz1]
                    have q1' : (z == 1) = false := by simp [hz1]
                    by_cases hz2 : z = 2
                    · have q2 : (z != 2) = false := by simp [hz2]
                      have q2' : (z == 2) = true := by simp [hz2]
                      have hkb : kindB z = true := by unfold kindB; exact decide_eq_true (.inr hz2)
                      rw [hkb, Bool.true_and] at HEk
                      clear hkb hz1 hz2
                      go_wp2_with fail
                      go_roundw
                      case rel => exact ⟨k + 1, by omega, by go_num, HEk, HBk⟩
                      case measure => simp [intOf]; omega
                    · have q2 : (z != 2) = true := by simp [hz2]
                      have q2' : (z == 2) = false := by simp [hz2]
                      have hkb : kindB z = false := by unfold kindB; exact decide_eq_false (fun h => h.elim hz1 hz2)
                      have HF : Hid (formedB p = false) := by show _ = _; rw [H2.out, HE.out, HDe.out, HEk.out, hkb]; simp only [Bool.false_and]
                      clear hkb hz1 hz2 HEk
                      go_wp2_with fail
                      go_ret
                      exact ⟨by rw [HF.out]; rfl, HBF.out⟩
                · have HEn : Hid (p.decls.all rightDe = (p.decls.drop (j + 1)).all rightDe) := by show _ = _; rw [HE.out, HDe.out, HXk.out, List.drop_eq_nil_of_le (show y.kinds.length ≤ k by omega)]; rfl
                  have HBn : Hid (Below W0.heap.size W0 wr) := HB2.out.trans (HBk.out.mono HB2.out.size)
                  clear HXk
                  go_wp2_with fail
                  go_roundw
                  case rel => exact ⟨j + 1, by omega, by go_num, HEn, HBn⟩
                  case measure => simp [intOf]; omega
            · have e6 : decide (6 < y.kinds.length) = true := by simp; omega
              have e6i : decide ((6 : Int) < (y.kinds.length : Int)) = true := by simp; omega
              rw [decide_eq_false h6, Bool.false_and] at HDe
              have HF : Hid (formedB p = false) := by show _ = _; rw [H2.out, HE.out, HDe.out]; simp only [Bool.false_and]
              clear h6 HE HDe
              go_wp2_with fail
              refine (C.out _).mono ?_
              rintro e w2 ⟨rfl, hb⟩
              have HBF := Lib.hid (HB0.out.trans ((HB1.out.trans (hb.mono HB1.out.size)).mono HB0.out.size))
              have HO2 := Lib.hid (HBx.out.below hb)
              have x1 := HO2.out.cell 1
              simp only [List.getElem?_cons_zero, List.getElem?_cons_succ] at x1
              clear hb
              go_wp2_with fail
              go_ret
              exact ⟨by rw [HF.out]; rfl, HBF.out⟩
        · have HE : Hid (formedB p = p.rules.all rightRu) := by show _ = _; rw [H2.out, HX.out, List.drop_eq_nil_of_le (show p.decls.length ≤ j by omega)]; rfl
          have HBd := Lib.hid (HB0.out.trans (HB.out.mono HB0.out.size))
          have HOd := Lib.hid (HO.out.below HB.out)
          clear HX HB HO
          obtain ⟨wd, hwd⟩ : ∃ wd, wd = wr := ⟨_, rfl⟩
          subst hwd
          go_wp2_with fail
          clear c0 c1 cq
          go_loopw [6] (fun i wr => ∃ j : Nat, j ≤ p.rules.length ∧ i = .int .i64 j ∧ Hid (p.rules.all rightRu = (p.rules.drop j).all rightRu) ∧ Hid (Below wd.heap.size wd wr)) (fun i _ => p.rules.length - (intOf i).toNat)
          case atStart => exact ⟨0, Nat.zero_le _, rfl, Lib.hid rfl, Lib.hid (Below.refl _ _)⟩
          case round =>
            obtain ⟨j, hj, rfl, HX, HB⟩ := hrel
            have HOr := HOd.out.below HB.out
            have c1 := HOr.cell 1
            simp only [List.getElem?_cons_zero, List.getElem?_cons_succ] at c1
            have cq := HOr.lt
            clear HOr
            by_cases hlt : j < p.rules.length
            · obtain ⟨g, o, rfl, hgw, hc⟩ := HVR.out.at_ hlt
              obtain ⟨A1, c1', B1, d1, k0, k1, k2, k3, k4, k5, hRV⟩ := (hc.pers (Pers.of (HBd.out.trans (HB.out.mono HBd.out.size)))).open_
              have HS : Hid ((p.rules.drop j).all rightRu = (rightRu p.rules[j] && (p.rules.drop (j + 1)).all rightRu)) := by show _ = _; rw [List.drop_eq_getElem_cons hlt, List.all_cons]
              have HEr := Lib.hid (HX.out.trans HS.out)
              have C : Hid (Calls Tryz.prog 22 #[ruV p.rules[j] A1 c1' B1 d1] wr fun e w' => e = .returned (.bool (rightRu p.rules[j])) ∧ Below wr.heap.size wr w') := refRu_is p.rules[j] A1 c1' B1 d1 _ wr rfl hRV
              unfold ruV at C
              clear HS HX hc hRV
              generalize p.rules[j] = y at *
              generalize rightRu y = vR at C HEr
              cases vR with
              | false =>
                have HF : Hid (formedB p = false) := by show _ = _; rw [HE.out, HEr.out]; simp only [Bool.false_and]
                clear HEr
                go_wp2_with fail
                refine C.out.mono ?_
                rintro e w' ⟨rfl, hb⟩
                have HBF := Lib.hid (HBd.out.trans ((HB.out.trans (hb.mono HB.out.size)).mono HBd.out.size))
                clear hb
                go_wp2_with fail
                go_ret
                exact ⟨by rw [HF.out]; rfl, HBF.out⟩
              | true =>
                rw [Bool.true_and] at HEr
                go_wp2_with fail
                refine C.out.mono ?_
                rintro e w' ⟨rfl, hb⟩
                have HB' : Hid (Below wd.heap.size wd w') := HB.out.trans (hb.mono HB.out.size)
                clear hb
                go_wp2_with fail
                go_roundw
                case rel => exact ⟨j + 1, by omega, by go_num, HEr, HB'⟩
                case measure => simp [intOf]; omega
            · have HF : Hid (formedB p = true) := by show _ = _; rw [HE.out, HX.out, List.drop_eq_nil_of_le (show p.rules.length ≤ j by omega)]; rfl
              have HBF := Lib.hid (HBd.out.trans (HB.out.mono HBd.out.size))
              clear HX
              go_wp2_with fail
              go_ret
              exact ⟨by rw [HF.out]; rfl, HBF.out⟩
    · have e64 : decide (64 < p.rules.length) = true := by simp; omega
      have e64i : decide ((64 : Int) < (p.rules.length : Int)) = true := by simp; omega
      have HF : Hid (formedB p = false) := by show _ = _; rw [H.out, decide_eq_false h64, Bool.false_and, Bool.and_false]
      clear h64
      go_enter Tryz.func8, Tryz.ntmps8
      go_wp2_with fail
      go_ret
      exact ⟨by rw [HF.out]; rfl, hb0⟩
  · have e32 : decide (32 < p.decls.length) = true := by simp; omega
    have e32i : decide ((32 : Int) < (p.decls.length : Int)) = true := by simp; omega
    have HF : Hid (formedB p = false) := by show _ = _; rw [H.out, decide_eq_false h32, Bool.false_and, Bool.false_and]
    clear h32
    go_enter Tryz.func8, Tryz.ntmps8
    go_wp2_with fail
    go_ret
    exact ⟨by rw [HF.out]; rfl, hb0⟩
end Go.Proofs.YtlfakhjcpdkaiaaGreatDoor

set_option linter.unusedVariables false
set_option linter.unusedSimpArgs false
namespace Go.Proofs.YtlfakhjcpdkaiaaGreatDoor
open Go.RowKit Go.Deep Go.Shelf

def tfD (k : Nat) : Nat := ([17, 18, 19, 20, 5, 6] : List Nat).getD k 0
theorem tfD_inj : ∀ i j, i < 6 → j < 6 → tfD i = tfD j → i = j := inj_of (by kernel_rfl)
def zlP : List Value := [.slice none 0 0, .slice none 0 0]
/-- not one of the two boxes. -/
def Pb (d : Nat → Bool) (x y k : Nat) : Prop := (d 4 = true → k ≠ x) ∧ (d 5 = true → k ≠ y)
/-- a program's copy in a value. -/
def GotV (p : TPg) (P : Nat → Prop) (v : Value) (w : World) : Prop := ∃ A c B e, v = pgV p A c B e ∧ Stab w P (fun W => PgV W p A B)
/-- a program's box. -/
def BoxV (n0 b : Nat) (full : Bool) (v : Value) (w : World) : Prop := n0 ≤ b ∧ (full = false → Own w b 31 zlP) ∧ (full = true → ∃ xs, v = .agg xs.toArray ∧ Own w b 31 xs)
structure TfI (wr : World) (a0 : Act) (vp vq : Value) (p q : TPg) (x y : Nat) (d : Nat → Bool) (a : Act) (w : World) : Prop where
  tm : a.tmps.size = a0.tmps.size
  df : a.defers = a0.defers
  fr : ∀ t, (∀ k, k < 6 → t ≠ tfD k) → a.tmps.getD t undef = a0.tmps.getD t undef
  low : Below wr.heap.size wr w
  v0 : d 0 = true → a.tmps.getD 17 undef = vp
  v1 : d 1 = true → GotV p (Pb d x y) (a.tmps.getD 18 undef) w
  v2 : d 2 = true → a.tmps.getD 19 undef = vq
  v3 : d 3 = true → GotV q (Pb d x y) (a.tmps.getD 20 undef) w
  v4 : d 4 = true → a.tmps.getD 5 undef = .pointer (some ⟨x, 0, none⟩)
  v5 : d 5 = true → a.tmps.getD 6 undef = .pointer (some ⟨y, 0, none⟩)
  b4 : d 4 = true → BoxV wr.heap.size x (d 6) (a.tmps.getD 18 undef) w
  b5 : d 5 = true → BoxV wr.heap.size y (d 7) (a.tmps.getD 20 undef) w
  ne : d 4 = true → d 5 = true → x ≠ y
  o6 : d 6 = true → d 4 = true ∧ d 1 = true
  o7 : d 7 = true → d 5 = true ∧ d 3 = true
section
variable {wr : World} {a0 : Act} {vp vq : Value} {p q : TPg} {x y x' y' : Nat} {d : Nat → Bool} {a : Act} {w w' : World} {P P' : Nat → Prop} {v : Value} {n0 b : Nat} {f : Bool}
theorem GotV.below (h : GotV p P v w) (hb : Below w.heap.size w w') (hP : ∀ k, k < w.heap.size → P k → P' k) : GotV p P' v w' := by
  obtain ⟨A, c, B, e, h1, h2⟩ := h
  exact ⟨A, c, B, e, h1, h2.keep hb.size (fun k hk _ => hb.block k hk) hP⟩
theorem BoxV.below (h : BoxV n0 b f v w) (hb : Below w.heap.size w w') : BoxV n0 b f v w' :=
  ⟨h.1, fun hf => (h.2.1 hf).below hb, fun hf => by
    obtain ⟨xs, h1, h2⟩ := h.2.2 hf
    exact ⟨xs, h1, h2.below hb⟩⟩
theorem TfI.make (h : TfI wr a0 vp vq p q x y d a w) (ha0 : a.tmps.size = 40) {i : Nat} (hi : i < 6) (hdi : d i = false) {v : Value} (hb : Below w.heap.size w w')
    (hx : d 4 = true → x' = x) (hy : d 5 = true → y' = y) (hP : ∀ k, k < w.heap.size → Pb d x y k → Pb (upd d i) x' y' k)
    (n0 : i = 0 → v = vp) (n1 : i = 1 → GotV p (Pb (upd d i) x' y') v w') (n2 : i = 2 → v = vq) (n3 : i = 3 → GotV q (Pb (upd d i) x' y') v w')
    (n4 : i = 4 → v = .pointer (some ⟨x', 0, none⟩) ∧ wr.heap.size ≤ x' ∧ Own w' x' 31 zlP) (n5 : i = 5 → v = .pointer (some ⟨y', 0, none⟩) ∧ wr.heap.size ≤ y' ∧ Own w' y' 31 zlP)
    (nn : upd d i 4 = true → upd d i 5 = true → x' ≠ y') : TfI wr a0 vp vq p q x' y' (upd d i) (a.put (some (tfD i)) v) w' := by
  have hlt : ∀ k, k < 6 → tfD k < 40 := lt_of (n := 40) (by kernel_rfl)
  have hdl : tfD i < a.tmps.size := by rw [ha0]; exact hlt i hi
  have e6 : upd d i 6 = d 6 := upd_ne (by omega)
  have e7 : upd d i 7 = d 7 := upd_ne (by omega)
  have at_ : ∀ k, k < 6 → k ≠ i → (a.put (some (tfD i)) v).tmps.getD (tfD k) undef = a.tmps.getD (tfD k) undef := fun k hk hne => by
    rw [getD_put hdl, if_neg fun e => hne (tfD_inj k i hk hi e)]
  have here : (a.put (some (tfD i)) v).tmps.getD (tfD i) undef = v := by rw [getD_put hdl, if_pos rfl]
  refine ⟨by simpa [Act.put] using h.tm, h.df, fun t ht => ?_, h.low.trans (hb.mono h.low.size), fun hd => ?_, fun hd => ?_, fun hd => ?_, fun hd => ?_, fun hd => ?_, fun hd => ?_, fun hd => ?_, fun hd => ?_, nn, fun hd => ?_, fun hd => ?_⟩
  · rw [getD_put hdl, if_neg (ht i hi)]
    exact h.fr t ht
  · by_cases e : 0 = i
    · subst e
      rw [show (17 : Nat) = tfD 0 from rfl, here]
      exact n0 rfl
    · rw [show (17 : Nat) = tfD 0 from rfl, at_ 0 (by omega) e]
      rw [upd_ne e] at hd
      exact h.v0 hd
  · by_cases e : 1 = i
    · subst e
      rw [show (18 : Nat) = tfD 1 from rfl, here]
      exact n1 rfl
    · rw [show (18 : Nat) = tfD 1 from rfl, at_ 1 (by omega) e]
      rw [upd_ne e] at hd
      exact (h.v1 hd).below hb hP
  · by_cases e : 2 = i
    · subst e
      rw [show (19 : Nat) = tfD 2 from rfl, here]
      exact n2 rfl
    · rw [show (19 : Nat) = tfD 2 from rfl, at_ 2 (by omega) e]
      rw [upd_ne e] at hd
      exact h.v2 hd
  · by_cases e : 3 = i
    · subst e
      rw [show (20 : Nat) = tfD 3 from rfl, here]
      exact n3 rfl
    · rw [show (20 : Nat) = tfD 3 from rfl, at_ 3 (by omega) e]
      rw [upd_ne e] at hd
      exact (h.v3 hd).below hb hP
  · by_cases e : 4 = i
    · subst e
      rw [show (5 : Nat) = tfD 4 from rfl, here]
      exact (n4 rfl).1
    · rw [show (5 : Nat) = tfD 4 from rfl, at_ 4 (by omega) e]
      rw [upd_ne e] at hd
      exact (h.v4 hd).trans (by rw [hx hd])
  · by_cases e : 5 = i
    · subst e
      rw [show (6 : Nat) = tfD 5 from rfl, here]
      exact (n5 rfl).1
    · rw [show (6 : Nat) = tfD 5 from rfl, at_ 5 (by omega) e]
      rw [upd_ne e] at hd
      exact (h.v5 hd).trans (by rw [hy hd])
  · rw [e6]
    by_cases e : 4 = i
    · subst e
      have hz : d 6 = false := by
        cases hz : d 6 with
        | false => rfl
        | true => rw [(h.o6 hz).1] at hdi; cases hdi
      rw [hz]
      exact ⟨(n4 rfl).2.1, fun _ => (n4 rfl).2.2, fun z => by cases z⟩
    · rw [upd_ne e] at hd
      rw [hx hd]
      have hB := (h.b4 hd).below hb
      by_cases e1 : 1 = i
      · subst e1
        have hz : d 6 = false := by
          cases hz : d 6 with
          | false => rfl
          | true => rw [(h.o6 hz).2] at hdi; cases hdi
        rw [hz] at hB ⊢
        exact ⟨hB.1, hB.2.1, fun z => by cases z⟩
      · rw [show (18 : Nat) = tfD 1 from rfl, at_ 1 (by omega) e1]
        exact hB
  · rw [e7]
    by_cases e : 5 = i
    · subst e
      have hz : d 7 = false := by
        cases hz : d 7 with
        | false => rfl
        | true => rw [(h.o7 hz).1] at hdi; cases hdi
      rw [hz]
      exact ⟨(n5 rfl).2.1, fun _ => (n5 rfl).2.2, fun z => by cases z⟩
    · rw [upd_ne e] at hd
      rw [hy hd]
      have hB := (h.b5 hd).below hb
      by_cases e1 : 3 = i
      · subst e1
        have hz : d 7 = false := by
          cases hz : d 7 with
          | false => rfl
          | true => rw [(h.o7 hz).2] at hdi; cases hdi
        rw [hz] at hB ⊢
        exact ⟨hB.1, hB.2.1, fun z => by cases z⟩
      · rw [show (20 : Nat) = tfD 3 from rfl, at_ 3 (by omega) e1]
        exact hB
  · rw [e6] at hd
    obtain ⟨h1, h2⟩ := h.o6 hd
    exact ⟨by unfold upd; split <;> simp_all, by unfold upd; split <;> simp_all⟩
  · rw [e7] at hd
    obtain ⟨h1, h2⟩ := h.o7 hd
    exact ⟨by unfold upd; split <;> simp_all, by unfold upd; split <;> simp_all⟩
theorem TfI.store6 (h : TfI wr a0 vp vq p q x y d a w) (h4 : d 4 = true) (h1 : d 1 = true) (hk : d 6 = false) {xs : List Value} (hv : a.tmps.getD 18 undef = .agg xs.toArray) : TfI wr a0 vp vq p q x y (upd d 6) a (w.setRow x xs.toArray) := by
  obtain ⟨g1, g2, _⟩ := h.b4 h4
  have g3 := g2 hk
  have hkr : Kept [x] w (w.setRow x xs.toArray) := ⟨rfl, rfl, rfl, by simp, fun k _ hk => setRow_other w x k _ (by simpa using hk)⟩
  have hrow : Own (w.setRow x xs.toArray) x 31 xs := setRow_heap w x _ xs.toArray _ _ g3
  have hgot : ∀ (r : TPg) (v : Value), GotV r (Pb d x y) v w → GotV r (Pb (upd d 6) x y) v (w.setRow x xs.toArray) := fun r v ⟨A, c, B, e, k1, k2⟩ =>
    ⟨A, c, B, e, k1, k2.keep hkr.size (fun k hk hp => hkr.block k hk (by simp only [List.mem_singleton]; exact hp.1 h4)) (fun k _ hp => ⟨fun z => hp.1 (by rw [← z]; exact (upd_ne (by omega)).symm), fun z => hp.2 (by rw [← z]; exact (upd_ne (by omega)).symm)⟩)⟩
  have u : ∀ k, k ≠ 6 → upd d 6 k = d k := fun k hk => upd_ne hk
  refine ⟨h.tm, h.df, h.fr, h.low.trans (hkr.below h.low.size (fun k hk => by simp only [List.mem_singleton] at hk; omega)), fun z => h.v0 (by rw [← z, u _ (by omega)]), fun z => hgot _ _ (h.v1 (by rw [← z, u _ (by omega)])), fun z => h.v2 (by rw [← z, u _ (by omega)]), fun z => hgot _ _ (h.v3 (by rw [← z, u _ (by omega)])), fun z => h.v4 (by rw [← z, u _ (by omega)]), fun z => h.v5 (by rw [← z, u _ (by omega)]), fun z => ?_, fun z => ?_, fun z z' => h.ne (by rw [← z, u _ (by omega)]) (by rw [← z', u _ (by omega)]), fun z => ?_, fun z => ?_⟩
  · rw [upd_at]
    exact ⟨g1, (fun z => by cases z), fun _ => ⟨xs, hv, hrow⟩⟩
  · rw [u _ (by omega)] at z ⊢
    obtain ⟨k1, k2, k3⟩ := h.b5 z
    have hne : y ≠ x := fun e => h.ne h4 z e.symm
    exact ⟨k1, fun q => hkr.own (k2 q) (by simpa using hne), fun q => by
      obtain ⟨ys, r1, r2⟩ := k3 q
      exact ⟨ys, r1, hkr.own r2 (by simpa using hne)⟩⟩
  · exact ⟨by rw [u _ (by omega)]; exact h4, by rw [u _ (by omega)]; exact h1⟩
  · rw [u _ (by omega)] at z
    obtain ⟨r1, r2⟩ := h.o7 z
    exact ⟨by rw [u _ (by omega)]; exact r1, by rw [u _ (by omega)]; exact r2⟩
theorem TfI.store7 (h : TfI wr a0 vp vq p q x y d a w) (h4 : d 5 = true) (h1 : d 3 = true) (hk : d 7 = false) {xs : List Value} (hv : a.tmps.getD 20 undef = .agg xs.toArray) : TfI wr a0 vp vq p q x y (upd d 7) a (w.setRow y xs.toArray) := by
  obtain ⟨g1, g2, _⟩ := h.b5 h4
  have g3 := g2 hk
  have hkr : Kept [y] w (w.setRow y xs.toArray) := ⟨rfl, rfl, rfl, by simp, fun k _ hk => setRow_other w y k _ (by simpa using hk)⟩
  have hrow : Own (w.setRow y xs.toArray) y 31 xs := setRow_heap w y _ xs.toArray _ _ g3
  have hgot : ∀ (r : TPg) (v : Value), GotV r (Pb d x y) v w → GotV r (Pb (upd d 7) x y) v (w.setRow y xs.toArray) := fun r v ⟨A, c, B, e, k1, k2⟩ =>
    ⟨A, c, B, e, k1, k2.keep hkr.size (fun k hk hp => hkr.block k hk (by simp only [List.mem_singleton]; exact hp.2 h4)) (fun k _ hp => ⟨fun z => hp.1 (by rw [← z]; exact (upd_ne (by omega)).symm), fun z => hp.2 (by rw [← z]; exact (upd_ne (by omega)).symm)⟩)⟩
  have u : ∀ k, k ≠ 7 → upd d 7 k = d k := fun k hk => upd_ne hk
  refine ⟨h.tm, h.df, h.fr, h.low.trans (hkr.below h.low.size (fun k hk => by simp only [List.mem_singleton] at hk; omega)), fun z => h.v0 (by rw [← z, u _ (by omega)]), fun z => hgot _ _ (h.v1 (by rw [← z, u _ (by omega)])), fun z => h.v2 (by rw [← z, u _ (by omega)]), fun z => hgot _ _ (h.v3 (by rw [← z, u _ (by omega)])), fun z => h.v4 (by rw [← z, u _ (by omega)]), fun z => h.v5 (by rw [← z, u _ (by omega)]), fun z => ?_, fun z => ?_, fun z z' => h.ne (by rw [← z, u _ (by omega)]) (by rw [← z', u _ (by omega)]), fun z => ?_, fun z => ?_⟩
  · rw [u _ (by omega)] at z ⊢
    obtain ⟨k1, k2, k3⟩ := h.b4 z
    have hne : x ≠ y := h.ne z h4
    exact ⟨k1, fun q => hkr.own (k2 q) (by simpa using hne), fun q => by
      obtain ⟨ys, r1, r2⟩ := k3 q
      exact ⟨ys, r1, hkr.own r2 (by simpa using hne)⟩⟩
  · rw [upd_at]
    exact ⟨g1, (fun z => by cases z), fun _ => ⟨xs, hv, hrow⟩⟩
  · rw [u _ (by omega)] at z
    obtain ⟨r1, r2⟩ := h.o6 z
    exact ⟨by rw [u _ (by omega)]; exact r1, by rw [u _ (by omega)]; exact r2⟩
  · exact ⟨by rw [u _ (by omega)]; exact h4, by rw [u _ (by omega)]; exact h1⟩
end
theorem cntB_len : ∀ (l : List TLt), l.length ≤ cntB l
  | [] => Nat.zero_le _
  | x :: xs => by
    have h := cntB_len xs
    have e : cntB (x :: xs) = cntLt x + cntB xs := rfl
    have e2 : cntLt x = x.atom.args.length + cntE x.left + cntE x.right := rfl
    have := cntE_pos x.left
    rw [e, List.length_cons]
    omega
theorem smallP_of {p : TPg} (h : 0 ≤ leftPg p 1500) : SmallP p := by
  obtain ⟨h1, h2, _, h4⟩ := leftPg_cnt h
  refine ⟨by omega, by omega, fun r hr => ?_⟩
  have h5 := h4 r hr
  have e : cntRu r = r.head.args.length + cntB r.body := rfl
  have h6 := cntB_len r.body
  refine ⟨by omega, by omega, fun x hx => ?_⟩
  have h7 := cntB_mem hx
  have e2 : cntLt x = x.atom.args.length + cntE x.left + cntE x.right := rfl
  exact ⟨by omega, by omega, by omega⟩
end Go.Proofs.YtlfakhjcpdkaiaaGreatDoor

set_option linter.unusedVariables false
set_option linter.unusedSimpArgs false
namespace Go.Proofs.YtlfakhjcpdkaiaaGreatDoor
open Go.RowKit Go.Deep Go.Shelf

/-- the four boxes. -/
abbrev FwS (wr : World) (b1 b2 b5 b6 : Nat) (p q : TPg) (A : Option Addr) (c : Nat) (B : Option Addr) (d : Nat) (A' : Option Addr) (c' : Nat) (B' : Option Addr) (d' : Nat) (X : Option Addr) (xc : Nat) (X2 : Option Addr) (xd : Nat) (Y : Option Addr) (yc : Nat) (Y2 : Option Addr) (yd : Nat) (W : World) : Prop := W.cell? ⟨b1, 0, none⟩ = some (.slice A p.decls.length c) ∧ W.cell? ⟨b1, 1, none⟩ = some (.slice B p.rules.length d) ∧ W.cell? ⟨b2, 0, none⟩ = some (.slice A' q.decls.length c') ∧ W.cell? ⟨b2, 1, none⟩ = some (.slice B' q.rules.length d') ∧ W.cell? ⟨b5, 0, none⟩ = some (.slice X p.decls.length xc) ∧ W.cell? ⟨b5, 1, none⟩ = some (.slice X2 p.rules.length xd) ∧ W.cell? ⟨b6, 0, none⟩ = some (.slice Y q.decls.length yc) ∧ W.cell? ⟨b6, 1, none⟩ = some (.slice Y2 q.rules.length yd) ∧ b1 < W.heap.size ∧ b2 < W.heap.size ∧ b5 < W.heap.size ∧ b6 < W.heap.size ∧ Below wr.heap.size wr W
section
variable {wr : World} {b1 b2 b5 b6 : Nat} {p q : TPg} {A : Option Addr} {c : Nat} {B : Option Addr} {d : Nat} {A' : Option Addr} {c' : Nat} {B' : Option Addr} {d' : Nat} {X : Option Addr} {xc : Nat} {X2 : Option Addr} {xd : Nat} {Y : Option Addr} {yc : Nat} {Y2 : Option Addr} {yd : Nat} {W W' : World}
theorem FwS.step (h : FwS wr b1 b2 b5 b6 p q A c B d A' c' B' d' X xc X2 xd Y yc Y2 yd W) (hb : Below W.heap.size W W') : FwS wr b1 b2 b5 b6 p q A c B d A' c' B' d' X xc X2 xd Y yc Y2 yd W' := by
  obtain ⟨z0, z1, z2, z3, z4, z5, z6, z7, l1, l2, l3, l4, hl⟩ := h
  exact ⟨(hb.cell (p := ⟨b1, _, none⟩) l1).trans z0, (hb.cell (p := ⟨b1, _, none⟩) l1).trans z1, (hb.cell (p := ⟨b2, _, none⟩) l2).trans z2, (hb.cell (p := ⟨b2, _, none⟩) l2).trans z3, (hb.cell (p := ⟨b5, _, none⟩) l3).trans z4, (hb.cell (p := ⟨b5, _, none⟩) l3).trans z5, (hb.cell (p := ⟨b6, _, none⟩) l4).trans z6, (hb.cell (p := ⟨b6, _, none⟩) l4).trans z7, Nat.lt_of_lt_of_le l1 hb.size, Nat.lt_of_lt_of_le l2 hb.size, Nat.lt_of_lt_of_le l3 hb.size, Nat.lt_of_lt_of_le l4 hb.size, hl.trans (hb.mono hl.size)⟩
theorem FwS.low (h : FwS wr b1 b2 b5 b6 p q A c B d A' c' B' d' X xc X2 xd Y yc Y2 yd W) : Below wr.heap.size wr W := h.2.2.2.2.2.2.2.2.2.2.2.2
end
theorem infoTpgF : (Tryz.prog.info? 25).map (·.size) = some 2 := by kernel_rfl
theorem BoxV.lt {n0 b : Nat} {f : Bool} {v : Value} {w : World} (h : BoxV n0 b f v w) : b < w.heap.size := by
  cases f with
  | false => exact (h.2.1 rfl).lt
  | true =>
    obtain ⟨xs, _, h2⟩ := h.2.2 rfl
    exact h2.lt
set_option maxRecDepth 100000 in
set_option maxHeartbeats 4000000 in
theorem formed_walk (p : TPg) (A : Option Addr) (c : Nat) (B : Option Addr) (d : Nat) (q : TPg) (A' : Option Addr) (c' : Nat) (B' : Option Addr) (d' : Nat) (w : World) (hV : PgV w p A B) (hV' : PgV w q A' B') (hL : Lays w) :
    Calls Tryz.prog 3 #[pgV p A c B d, pgV q A' c' B' d'] w fun e w' => e = .returned (.bool true) ∧ Below w.heap.size w w' := by
  have mixed : Tryz.prog.follows .mixedOrders = true := by kernel_rfl
  have o1 : Own (w.alloc (.cells #[.slice A p.decls.length c, .slice B p.rules.length d] 25)) w.heap.size 25 [.slice A p.decls.length c, .slice B p.rules.length d] := heap_alloc_new _ _
  have o2 := heap_alloc_new (w.alloc (.cells #[.slice A p.decls.length c, .slice B p.rules.length d] 25)) (.cells #[.slice A' q.decls.length c', .slice B' q.rules.length d'] 25)
  simp only [World.size_alloc] at o2
  have HP0 : Hid (Own ((w.alloc (.cells #[.slice A p.decls.length c, .slice B p.rules.length d] 25)).alloc (.cells #[.slice A' q.decls.length c', .slice B' q.rules.length d'] 25)) w.heap.size 25 [.slice A p.decls.length c, .slice B p.rules.length d]) := o1.alloc _
  have HQ0 : Hid (Own ((w.alloc (.cells #[.slice A p.decls.length c, .slice B p.rules.length d] 25)).alloc (.cells #[.slice A' q.decls.length c', .slice B' q.rules.length d'] 25)) (w.heap.size + 1) 25 [.slice A' q.decls.length c', .slice B' q.rules.length d']) := o2
  have HB0 : Hid (Below w.heap.size w ((w.alloc (.cells #[.slice A p.decls.length c, .slice B p.rules.length d] 25)).alloc (.cells #[.slice A' q.decls.length c', .slice B' q.rules.length d'] 25))) := ((Below.refl _ _).alloc (Nat.le_refl _) _).alloc (by simp) _
  clear o1 o2
  have HV := Lib.hid hV
  have HV' := Lib.hid hV'
  have HL := Lib.hid hL
  have CA := Lib.hid (alive_any _ (hL.below HB0.out))
  clear hV hV' hL
  unfold pgV
  go_enter Tryz.func3, Tryz.ntmps3
  go_wp2_with fail
  refine CA.out.mono ?_
  rintro e w1 ⟨rfl, hb⟩
  have HB1 := Lib.hid (HB0.out.trans (hb.mono HB0.out.size))
  have HP1 := Lib.hid (HP0.out.below hb)
  have HQ1 := Lib.hid (HQ0.out.below hb)
  clear hb CA HB0 HP0 HQ0
  have CS := Lib.hid (Size_any p A c B d 1500 w1 (HV.out.below HB1.out) (by omega) (by omega))
  have HC : Hid (0 ≤ leftPg p 1500 → SmallP p) := smallP_of
  unfold pgV at CS
  have p0 := HP1.out.cell 0
  have p1 := HP1.out.cell 1
  simp only [List.getElem?_cons_zero, List.getElem?_cons_succ] at p0 p1
  have pl := HP1.out.lt
  go_wp2_with fail
  refine CS.out.mono ?_
  rintro e w2 ⟨rfl, hb⟩
  have HB2 := Lib.hid (HB1.out.trans (hb.mono HB1.out.size))
  have HP2 := Lib.hid (HP1.out.below hb)
  have HQ2 := Lib.hid (HQ1.out.below hb)
  clear hb CS HB1 HP1 HQ1 p0 p1 pl
  by_cases hz : leftPg p 1500 < 0
  · clear HC
    generalize leftPg p 1500 = z at *
    go_wp2_with fail
    go_ret
    exact ⟨rfl, HB2.out⟩
  · have HSp := Lib.hid (HC.out (by omega))
    clear HC
    generalize leftPg p 1500 = z at *
    have CS := Lib.hid (Size_any q A' c' B' d' 1500 w2 (HV'.out.below HB2.out) (by omega) (by omega))
    have HC : Hid (0 ≤ leftPg q 1500 → SmallP q) := smallP_of
    unfold pgV at CS
    have q0 := HQ2.out.cell 0
    have q1 := HQ2.out.cell 1
    simp only [List.getElem?_cons_zero, List.getElem?_cons_succ] at q0 q1
    have ql := HQ2.out.lt
    go_wp2_with fail
    refine CS.out.mono ?_
    rintro e wr ⟨rfl, hb⟩
    have HB3 := Lib.hid (HB2.out.trans (hb.mono HB2.out.size))
    have HP3 := Lib.hid (HP2.out.below hb)
    have HQ3 := Lib.hid (HQ2.out.below hb)
    clear hb CS HB2 HP2 HQ2 q0 q1 ql
    by_cases hz' : leftPg q 1500 < 0
    · clear HC
      generalize leftPg q 1500 = z' at *
      go_wp2_with fail
      go_ret
      exact ⟨rfl, HB3.out⟩
    · have HSq := Lib.hid (HC.out (by omega))
      clear HC
      generalize leftPg q 1500 = z' at *
      go_wp2_with fail
      clear hz hz'
      obtain ⟨b1, hb1⟩ : ∃ b, b = w.heap.size := ⟨_, rfl⟩
      obtain ⟨b2, hb2⟩ : ∃ b, b = w.heap.size + 1 := ⟨_, rfl⟩
      rw [← hb2] at HQ3 ⊢
      rw [← hb1] at HP3
      rw [show (Value.pointer (some ⟨w.heap.size, 0, none⟩)) = .pointer (some ⟨b1, 0, none⟩) by rw [hb1]]
      clear hb1 hb2
      have HVw := Lib.hid (HV.out.below HB3.out)
      have HVw' := Lib.hid (HV'.out.below HB3.out)
      have HLw := Lib.hid (HL.out.below HB3.out)
      clear HV HV' HL
      rename_i K1 hK1
      refine wp_region_inv' (n := 8) (J := fun a0 dd a w' => ∃ x y, TfI wr a0 (.agg #[.slice A p.decls.length c, .slice B p.rules.length d]) (.agg #[.slice A' q.decls.length c', .slice B' q.rules.length d']) p q x y dd a w') mixed rfl ?hac ?hg ?h0 ?hstep ?hend
      case hac => exact ac_of' (by kernel_rfl)
      case hg => exact guard_of (by kernel_rfl)
      case h0 => exact ⟨0, 0, rfl, rfl, (fun _ _ => rfl), (Below.refl _ _).drew, (fun h => by cases h), (fun h => by cases h), (fun h => by cases h), (fun h => by cases h), (fun h => by cases h), (fun h => by cases h), (fun h => by cases h), (fun h => by cases h), (fun h => by cases h), (fun h => by cases h), (fun h => by cases h)⟩
      case hstep =>
        intro i oo dd a w2 hi ho hdi hdep hJ K hK
        obtain ⟨x, y, hJ⟩ := hJ
        have ha0 : a.tmps.size = 40 := hJ.tm.trans rfl
        match i, hi with
        | 0, _ =>
          simp only [List.getElem?_toArray, List.getElem?_cons_zero, List.getElem?_cons_succ, Option.some.injEq] at ho
          subst ho
          have h1 : a.tmps.getD 2 undef = .pointer (some ⟨b1, 0, none⟩) := (hJ.fr 2 (by decide)).trans rfl
          refine mk_val (v := .agg #[.slice A p.decls.length c, .slice B p.rules.length d]) (w' := w2) ?_ (hK _ _ ⟨x, y, hJ.make ha0 (i := 0) (by omega) hdi (Below.refl _ _) (fun _ => rfl) (fun _ => rfl) (fun k _ hp => ⟨fun z => hp.1 (by rw [← z]; exact (upd_ne (by omega)).symm), fun z => hp.2 (by rw [← z]; exact (upd_ne (by omega)).symm)⟩) (fun _ => rfl) (fun e => absurd e (by decide)) (fun e => absurd e (by decide)) (fun e => absurd e (by decide)) (fun e => absurd e (by decide)) (fun e => absurd e (by decide)) (fun z z' => hJ.ne (by rw [← z]; exact (upd_ne (by omega)).symm) (by rw [← z']; exact (upd_ne (by omega)).symm))⟩)
          simp only [execOp, Act.eval, h1, Instr.loadAt, Instr.sureAddr, Sem.run_bind, Sem.run_pure, Result.andThen_ok]
          rw [run_loadVar_at w2 b1 0 25 [.slice A p.decls.length c, .slice B p.rules.length d] _ (fun i v hv => by rw [Nat.zero_add]; exact (hJ.low.cell (p := ⟨b1, _, none⟩) HP3.out.lt).trans ((HP3.out.cell i).trans hv)) Tryz.underlying25 rfl infoTpgF]
          rfl
        | 1, _ =>
          simp only [List.getElem?_toArray, List.getElem?_cons_zero, List.getElem?_cons_succ, Option.some.injEq] at ho
          subst ho
          have hd0 : dd 0 = true := by first | exact hdep ⟨0, .data⟩ (by simp) rfl | exact hdep ⟨0, .phase⟩ (by simp) rfl | exact hdep ⟨0, .chain⟩ (by simp) rfl
          have h1 : a.tmps.getD 17 undef = .agg #[.slice A p.decls.length c, .slice B p.rules.length d] := hJ.v0 hd0
          refine mk_call (f := 6) (args := #[.agg #[.slice A p.decls.length c, .slice B p.rules.length d]]) (by simp only [execOp, resolve, Act.eval, List.map_toArray, List.map_cons, List.map_nil, h1]; kernel_rfl) ((Document_copy p A c B d wr w2 HSp.out HVw.out hJ.low).mono ?_)
          rintro e w' ⟨X, xc, X2, xd, rfl, hS, hb⟩
          refine ⟨_, rfl, hK _ _ ⟨x, y, hJ.make ha0 (i := 1) (by omega) hdi hb (fun _ => rfl) (fun _ => rfl) (fun k _ hp => ⟨fun z => hp.1 (by rw [← z]; exact (upd_ne (by omega)).symm), fun z => hp.2 (by rw [← z]; exact (upd_ne (by omega)).symm)⟩) (fun e => absurd e (by decide)) (fun _ => ⟨X, xc, X2, xd, rfl, hS.more (fun k hk hp => ⟨fun z => ?_, fun z => ?_⟩)⟩) (fun e => absurd e (by decide)) (fun e => absurd e (by decide)) (fun e => absurd e (by decide)) (fun e => absurd e (by decide)) (fun z z' => hJ.ne (by rw [← z]; exact (upd_ne (by omega)).symm) (by rw [← z']; exact (upd_ne (by omega)).symm))⟩⟩
          · have hB := hJ.b4 (by rw [← z]; exact (upd_ne (by omega)).symm)
            have h2 := hB.1
            have h3 := hB.lt
            omega
          · have hB := hJ.b5 (by rw [← z]; exact (upd_ne (by omega)).symm)
            have h2 := hB.1
            have h3 := hB.lt
            omega
        | 2, _ =>
          simp only [List.getElem?_toArray, List.getElem?_cons_zero, List.getElem?_cons_succ, Option.some.injEq] at ho
          subst ho
          have h1 : a.tmps.getD 3 undef = .pointer (some ⟨b2, 0, none⟩) := (hJ.fr 3 (by decide)).trans rfl
          refine mk_val (v := .agg #[.slice A' q.decls.length c', .slice B' q.rules.length d']) (w' := w2) ?_ (hK _ _ ⟨x, y, hJ.make ha0 (i := 2) (by omega) hdi (Below.refl _ _) (fun _ => rfl) (fun _ => rfl) (fun k _ hp => ⟨fun z => hp.1 (by rw [← z]; exact (upd_ne (by omega)).symm), fun z => hp.2 (by rw [← z]; exact (upd_ne (by omega)).symm)⟩) (fun e => absurd e (by decide)) (fun e => absurd e (by decide)) (fun _ => rfl) (fun e => absurd e (by decide)) (fun e => absurd e (by decide)) (fun e => absurd e (by decide)) (fun z z' => hJ.ne (by rw [← z]; exact (upd_ne (by omega)).symm) (by rw [← z']; exact (upd_ne (by omega)).symm))⟩)
          simp only [execOp, Act.eval, h1, Instr.loadAt, Instr.sureAddr, Sem.run_bind, Sem.run_pure, Result.andThen_ok]
          rw [run_loadVar_at w2 b2 0 25 [.slice A' q.decls.length c', .slice B' q.rules.length d'] _ (fun i v hv => by rw [Nat.zero_add]; exact (hJ.low.cell (p := ⟨b2, _, none⟩) HQ3.out.lt).trans ((HQ3.out.cell i).trans hv)) Tryz.underlying25 rfl infoTpgF]
          rfl
        | 3, _ =>
          simp only [List.getElem?_toArray, List.getElem?_cons_zero, List.getElem?_cons_succ, Option.some.injEq] at ho
          subst ho
          have hd2 : dd 2 = true := by first | exact hdep ⟨2, .data⟩ (by simp) rfl | exact hdep ⟨2, .phase⟩ (by simp) rfl | exact hdep ⟨2, .chain⟩ (by simp) rfl
          have h1 : a.tmps.getD 19 undef = .agg #[.slice A' q.decls.length c', .slice B' q.rules.length d'] := hJ.v2 hd2
          refine mk_call (f := 6) (args := #[.agg #[.slice A' q.decls.length c', .slice B' q.rules.length d']]) (by simp only [execOp, resolve, Act.eval, List.map_toArray, List.map_cons, List.map_nil, h1]; kernel_rfl) ((Document_copy q A' c' B' d' wr w2 HSq.out HVw'.out hJ.low).mono ?_)
          rintro e w' ⟨X, xc, X2, xd, rfl, hS, hb⟩
          refine ⟨_, rfl, hK _ _ ⟨x, y, hJ.make ha0 (i := 3) (by omega) hdi hb (fun _ => rfl) (fun _ => rfl) (fun k _ hp => ⟨fun z => hp.1 (by rw [← z]; exact (upd_ne (by omega)).symm), fun z => hp.2 (by rw [← z]; exact (upd_ne (by omega)).symm)⟩) (fun e => absurd e (by decide)) (fun e => absurd e (by decide)) (fun e => absurd e (by decide)) (fun _ => ⟨X, xc, X2, xd, rfl, hS.more (fun k hk hp => ⟨fun z => ?_, fun z => ?_⟩)⟩) (fun e => absurd e (by decide)) (fun e => absurd e (by decide)) (fun z z' => hJ.ne (by rw [← z]; exact (upd_ne (by omega)).symm) (by rw [← z']; exact (upd_ne (by omega)).symm))⟩⟩
          · have hB := hJ.b4 (by rw [← z]; exact (upd_ne (by omega)).symm)
            have h2 := hB.1
            have h3 := hB.lt
            omega
          · have hB := hJ.b5 (by rw [← z]; exact (upd_ne (by omega)).symm)
            have h2 := hB.1
            have h3 := hB.lt
            omega
        | 4, _ =>
          simp only [List.getElem?_toArray, List.getElem?_cons_zero, List.getElem?_cons_succ, Option.some.injEq] at ho
          subst ho
          refine mk_val (v := .pointer (some ⟨w2.heap.size, 0, none⟩)) (w' := w2.alloc (.cells #[.slice none 0 0, .slice none 0 0] 31)) ?_ (hK _ _ ⟨w2.heap.size, y, hJ.make ha0 (i := 4) (by omega) hdi ((Below.refl _ _).alloc (Nat.le_refl _) _) (fun z => by rw [hdi] at z; cases z) (fun _ => rfl) (fun k hk hp => ⟨fun _ => by omega, fun z => hp.2 (by rw [← z]; exact (upd_ne (by omega)).symm)⟩) (fun e => absurd e (by decide)) (fun e => absurd e (by decide)) (fun e => absurd e (by decide)) (fun e => absurd e (by decide)) (fun _ => ⟨rfl, hJ.low.size, heap_alloc_new _ _⟩) (fun e => absurd e (by decide)) (fun _ z => by have h3 := (hJ.b5 (by rw [← z]; exact (upd_ne (by omega)).symm)).lt; omega)⟩)
          simp only [execOp, Act.eval, List.map_toArray, List.map_cons, List.map_nil, Nat.add_zero]
          kernel_rfl
        | 5, _ =>
          simp only [List.getElem?_toArray, List.getElem?_cons_zero, List.getElem?_cons_succ, Option.some.injEq] at ho
          subst ho
          refine mk_val (v := .pointer (some ⟨w2.heap.size, 0, none⟩)) (w' := w2.alloc (.cells #[.slice none 0 0, .slice none 0 0] 31)) ?_ (hK _ _ ⟨x, w2.heap.size, hJ.make ha0 (i := 5) (by omega) hdi ((Below.refl _ _).alloc (Nat.le_refl _) _) (fun _ => rfl) (fun z => by rw [hdi] at z; cases z) (fun k hk hp => ⟨fun z => hp.1 (by rw [← z]; exact (upd_ne (by omega)).symm), fun _ => by omega⟩) (fun e => absurd e (by decide)) (fun e => absurd e (by decide)) (fun e => absurd e (by decide)) (fun e => absurd e (by decide)) (fun e => absurd e (by decide)) (fun _ => ⟨rfl, hJ.low.size, heap_alloc_new _ _⟩) (fun z _ => by have h3 := (hJ.b4 (by rw [← z]; exact (upd_ne (by omega)).symm)).lt; omega)⟩)
          simp only [execOp, Act.eval, List.map_toArray, List.map_cons, List.map_nil, Nat.add_zero]
          kernel_rfl
        | 6, _ =>
          simp only [List.getElem?_toArray, List.getElem?_cons_zero, List.getElem?_cons_succ, Option.some.injEq] at ho
          subst ho
          have hd4 : dd 4 = true := by first | exact hdep ⟨4, .data⟩ (by simp) rfl | exact hdep ⟨4, .phase⟩ (by simp) rfl | exact hdep ⟨4, .chain⟩ (by simp) rfl
          have hd1 : dd 1 = true := by first | exact hdep ⟨1, .data⟩ (by simp) rfl | exact hdep ⟨1, .phase⟩ (by simp) rfl | exact hdep ⟨1, .chain⟩ (by simp) rfl
          obtain ⟨X, xc, X2, xd, hv, _⟩ := hJ.v1 hd1
          have hv' : a.tmps.getD 18 undef = .agg ([.slice X p.decls.length xc, .slice X2 p.rules.length xd] : List Value).toArray := hv
          refine wp_store_row 31 (.tmp 5) (.tmp 18) rfl x _ (hJ.v4 hd4) hv' 31 zlP.toArray ((hJ.b4 hd4).2.1 hdi) infoRpg rfl (by simp [Value.oneCell']) ?_
          exact hK _ _ ⟨x, y, hJ.store6 hd4 hd1 hdi hv'⟩
        | 7, _ =>
          simp only [List.getElem?_toArray, List.getElem?_cons_zero, List.getElem?_cons_succ, Option.some.injEq] at ho
          subst ho
          have hd5 : dd 5 = true := by first | exact hdep ⟨5, .data⟩ (by simp) rfl | exact hdep ⟨5, .phase⟩ (by simp) rfl | exact hdep ⟨5, .chain⟩ (by simp) rfl
          have hd3 : dd 3 = true := by first | exact hdep ⟨3, .data⟩ (by simp) rfl | exact hdep ⟨3, .phase⟩ (by simp) rfl | exact hdep ⟨3, .chain⟩ (by simp) rfl
          obtain ⟨X, xc, X2, xd, hv, _⟩ := hJ.v3 hd3
          have hv' : a.tmps.getD 20 undef = .agg ([.slice X q.decls.length xc, .slice X2 q.rules.length xd] : List Value).toArray := hv
          refine wp_store_row 31 (.tmp 6) (.tmp 20) rfl y _ (hJ.v5 hd5) hv' 31 zlP.toArray ((hJ.b5 hd5).2.1 hdi) infoRpg rfl (by simp [Value.oneCell']) ?_
          exact hK _ _ ⟨x, y, hJ.store7 hd5 hd3 hdi hv'⟩
        | n + 8, h => omega
      case hend =>
        intro dd a w2 hall hJ
        obtain ⟨b5, b6, hJ⟩ := hJ
        obtain ⟨X, xc, X2, xd, h18, hS1⟩ := hJ.v1 (hall 1 (by omega))
        obtain ⟨Y, yc, Y2, yd, h20, hS2⟩ := hJ.v3 (hall 3 (by omega))
        have h5 := hJ.v4 (hall 4 (by omega))
        have h6 := hJ.v5 (hall 5 (by omega))
        have h17 := hJ.v0 (hall 0 (by omega))
        have h19 := hJ.v2 (hall 2 (by omega))
        obtain ⟨_, _, hx3⟩ := hJ.b4 (hall 4 (by omega))
        obtain ⟨xs, he, ox⟩ := hx3 (hall 6 (by omega))
        rw [h18] at he
        unfold pgV at he
        injection he with he
        obtain rfl : xs = [.slice X p.decls.length xc, .slice X2 p.rules.length xd] := (congrArg Array.toList he).symm
        clear he hx3
        obtain ⟨_, _, hx3⟩ := hJ.b5 (hall 5 (by omega))
        obtain ⟨ys, he, oy⟩ := hx3 (hall 7 (by omega))
        rw [h20] at he
        unfold pgV at he
        injection he with he
        obtain rfl : ys = [.slice Y q.decls.length yc, .slice Y2 q.rules.length yd] := (congrArg Array.toList he).symm
        clear he hx3
        have HX := Lib.hid hS1.here
        have HY := Lib.hid hS2.here
        have HLo := Lib.hid hJ.low
        have hfr := hJ.fr
        have hdf := hJ.df
        have hsz : a.tmps.size = 40 := hJ.tm.trans rfl
        have HOx := Lib.hid ox
        have HOy := Lib.hid oy
        clear hJ hall hS1 hS2 ox oy
        unfold pgV at h18 h20
        obtain ⟨⟨l⟩, df⟩ := a
        simp only at hdf hsz hfr h5 h6 h17 h18 h19 h20 ⊢
        subst hdf
        change l.length = 40 at hsz
        obtain ⟨t0, l0, rfl, hz0⟩ := cons_of hsz
        obtain ⟨t1, l1, rfl, hz1⟩ := cons_of hz0
        obtain ⟨t2, l2, rfl, hz2⟩ := cons_of hz1
        obtain ⟨t3, l3, rfl, hz3⟩ := cons_of hz2
        obtain ⟨t4, l4, rfl, hz4⟩ := cons_of hz3
        obtain ⟨t5, l5, rfl, hz5⟩ := cons_of hz4
        obtain ⟨t6, l6, rfl, hz6⟩ := cons_of hz5
        obtain ⟨t7, l7, rfl, hz7⟩ := cons_of hz6
        obtain ⟨t8, l8, rfl, hz8⟩ := cons_of hz7
        obtain ⟨t9, l9, rfl, hz9⟩ := cons_of hz8
        obtain ⟨t10, l10, rfl, hz10⟩ := cons_of hz9
        obtain ⟨t11, l11, rfl, hz11⟩ := cons_of hz10
        obtain ⟨t12, l12, rfl, hz12⟩ := cons_of hz11
        obtain ⟨t13, l13, rfl, hz13⟩ := cons_of hz12
        obtain ⟨t14, l14, rfl, hz14⟩ := cons_of hz13
        obtain ⟨t15, l15, rfl, hz15⟩ := cons_of hz14
        obtain ⟨t16, l16, rfl, hz16⟩ := cons_of hz15
        obtain ⟨t17, l17, rfl, hz17⟩ := cons_of hz16
        obtain ⟨t18, l18, rfl, hz18⟩ := cons_of hz17
        obtain ⟨t19, l19, rfl, hz19⟩ := cons_of hz18
        obtain ⟨t20, l20, rfl, hz20⟩ := cons_of hz19
        obtain ⟨t21, l21, rfl, hz21⟩ := cons_of hz20
        obtain ⟨t22, l22, rfl, hz22⟩ := cons_of hz21
        obtain ⟨t23, l23, rfl, hz23⟩ := cons_of hz22
        obtain ⟨t24, l24, rfl, hz24⟩ := cons_of hz23
        obtain ⟨t25, l25, rfl, hz25⟩ := cons_of hz24
        obtain ⟨t26, l26, rfl, hz26⟩ := cons_of hz25
        obtain ⟨t27, l27, rfl, hz27⟩ := cons_of hz26
        obtain ⟨t28, l28, rfl, hz28⟩ := cons_of hz27
        obtain ⟨t29, l29, rfl, hz29⟩ := cons_of hz28
        obtain ⟨t30, l30, rfl, hz30⟩ := cons_of hz29
        obtain ⟨t31, l31, rfl, hz31⟩ := cons_of hz30
        obtain ⟨t32, l32, rfl, hz32⟩ := cons_of hz31
        obtain ⟨t33, l33, rfl, hz33⟩ := cons_of hz32
        obtain ⟨t34, l34, rfl, hz34⟩ := cons_of hz33
        obtain ⟨t35, l35, rfl, hz35⟩ := cons_of hz34
        obtain ⟨t36, l36, rfl, hz36⟩ := cons_of hz35
        obtain ⟨t37, l37, rfl, hz37⟩ := cons_of hz36
        obtain ⟨t38, l38, rfl, hz38⟩ := cons_of hz37
        obtain ⟨t39, l39, rfl, hz39⟩ := cons_of hz38
        obtain rfl : l39 = [] := List.eq_nil_of_length_eq_zero hz39
        clear hsz hz0 hz1 hz2 hz3 hz4 hz5 hz6 hz7 hz8 hz9 hz10 hz11 hz12 hz13 hz14 hz15 hz16 hz17 hz18 hz19 hz20 hz21 hz22 hz23 hz24 hz25 hz26 hz27 hz28 hz29 hz30 hz31 hz32 hz33 hz34 hz35 hz36 hz37 hz38 hz39
        have f0 : t0 = .agg #[.slice A p.decls.length c, .slice B p.rules.length d] := hfr 0 (by decide)
        subst f0
        have f1 : t1 = .agg #[.slice A' q.decls.length c', .slice B' q.rules.length d'] := hfr 1 (by decide)
        subst f1
        have f2 : t2 = .pointer (some ⟨b1, 0, none⟩) := hfr 2 (by decide)
        subst f2
        have f3 : t3 = .pointer (some ⟨b2, 0, none⟩) := hfr 3 (by decide)
        subst f3
        have f4 : t4 = .bool false := hfr 4 (by decide)
        subst f4
        have f7 : t7 = .bool true := hfr 7 (by decide)
        subst f7
        have f8 : t8 = .bool false := hfr 8 (by decide)
        subst f8
        have f9 : t9 = .agg #[.slice A p.decls.length c, .slice B p.rules.length d] := hfr 9 (by decide)
        subst f9
        have f10 : t10 = .int .i64 z := hfr 10 (by decide)
        subst f10
        have f11 : t11 = .bool (decide (z < 0)) := hfr 11 (by decide)
        subst f11
        have f12 : t12 = .bool (decide (z < 0)) := hfr 12 (by decide)
        subst f12
        have f13 : t13 = .agg #[.slice A' q.decls.length c', .slice B' q.rules.length d'] := hfr 13 (by decide)
        subst f13
        have f14 : t14 = .int .i64 z' := hfr 14 (by decide)
        subst f14
        have f15 : t15 = .bool (decide (z' < 0)) := hfr 15 (by decide)
        subst f15
        have f16 : t16 = .bool (decide (z < 0) || decide (z' < 0)) := hfr 16 (by decide)
        subst f16
        have f21 : t21 = undef := hfr 21 (by decide)
        subst f21
        have f22 : t22 = undef := hfr 22 (by decide)
        subst f22
        have f23 : t23 = undef := hfr 23 (by decide)
        subst f23
        have f24 : t24 = undef := hfr 24 (by decide)
        subst f24
        have f25 : t25 = undef := hfr 25 (by decide)
        subst f25
        have f26 : t26 = undef := hfr 26 (by decide)
        subst f26
        have f27 : t27 = undef := hfr 27 (by decide)
        subst f27
        have f28 : t28 = undef := hfr 28 (by decide)
        subst f28
        have f29 : t29 = undef := hfr 29 (by decide)
        subst f29
        have f30 : t30 = undef := hfr 30 (by decide)
        subst f30
        have f31 : t31 = undef := hfr 31 (by decide)
        subst f31
        have f32 : t32 = undef := hfr 32 (by decide)
        subst f32
        have f33 : t33 = undef := hfr 33 (by decide)
        subst f33
        have f34 : t34 = undef := hfr 34 (by decide)
        subst f34
        have f35 : t35 = undef := hfr 35 (by decide)
        subst f35
        have f36 : t36 = undef := hfr 36 (by decide)
        subst f36
        have f37 : t37 = undef := hfr 37 (by decide)
        subst f37
        have f38 : t38 = undef := hfr 38 (by decide)
        subst f38
        have f39 : t39 = undef := hfr 39 (by decide)
        subst f39
        have g5 : t5 = _ := h5
        have g6 : t6 = _ := h6
        have g17 : t17 = _ := h17
        have g18 : t18 = _ := h18
        have g19 : t19 = _ := h19
        have g20 : t20 = _ := h20
        clear h5 h6 h17 h18 h19 h20 hfr
        subst g5 g6 g17 g18 g19 g20
        show K1 { tmps := #[.agg #[.slice A p.decls.length c, .slice B p.rules.length d], .agg #[.slice A' q.decls.length c', .slice B' q.rules.length d'], .pointer (some ⟨b1, 0, none⟩), .pointer (some ⟨b2, 0, none⟩), .bool false, .pointer (some ⟨b5, 0, none⟩), .pointer (some ⟨b6, 0, none⟩), .bool true, .bool false, .agg #[.slice A p.decls.length c, .slice B p.rules.length d], .int .i64 z, .bool (decide (z < 0)), .bool (decide (z < 0)), .agg #[.slice A' q.decls.length c', .slice B' q.rules.length d'], .int .i64 z', .bool (decide (z' < 0)), .bool (decide (z < 0) || decide (z' < 0)), .agg #[.slice A p.decls.length c, .slice B p.rules.length d], .agg #[.slice X p.decls.length xc, .slice X2 p.rules.length xd], .agg #[.slice A' q.decls.length c', .slice B' q.rules.length d'], .agg #[.slice Y q.decls.length yc, .slice Y2 q.rules.length yd], undef, undef, undef, undef, undef, undef, undef, undef, undef, undef, undef, undef, undef, undef, undef, undef, undef, undef, undef], defers := _ } _
        refine hK1 _ _ ?_
        clear hK1
        generalize z = y0 at *
        generalize z' = y1 at *
        have HP4 := Lib.hid (HP3.out.below HLo.out)
        have HQ4 := Lib.hid (HQ3.out.below HLo.out)
        have HB4 := Lib.hid (HB3.out.trans (HLo.out.mono HB3.out.size))
        have HV4 := Lib.hid (HVw.out.below HLo.out)
        have HV4' := Lib.hid (HVw'.out.below HLo.out)
        have HL4 := Lib.hid (HLw.out.below HLo.out)
        clear HP3 HQ3 HB3 HVw HVw' HLw HLo HSp HSq
        obtain ⟨wq, hwq⟩ : ∃ wq, wq = wr := ⟨_, rfl⟩
        clear hwq
        clear wq
        have hS0 : FwS w2 b1 b2 b5 b6 p q A c B d A' c' B' d' X xc X2 xd Y yc Y2 yd w2 := ⟨HP4.out.cell 0, HP4.out.cell 1, HQ4.out.cell 0, HQ4.out.cell 1, HOx.out.cell 0, HOx.out.cell 1, HOy.out.cell 0, HOy.out.cell 1, HP4.out.lt, HQ4.out.lt, HOx.out.lt, HOy.out.lt, Below.refl _ _⟩
        have HS := Lib.hid hS0
        clear hS0
        have C1 : Hid (∀ W, Below w2.heap.size w2 W → Calls Tryz.prog 7 #[.agg #[.slice A p.decls.length c, .slice B p.rules.length d]] W fun r w' => r = .returned (.bool (formedB p)) ∧ Below W.heap.size W w') := fun W hb => Formed_any p A c B d W (HV4.out.below hb) (HL4.out.below hb)
        have C2 : Hid (∀ W, Below w2.heap.size w2 W → Calls Tryz.prog 8 #[.agg #[.slice X p.decls.length xc, .slice X2 p.rules.length xd]] W fun r w' => r = .returned (.bool (formedB p)) ∧ Below W.heap.size W w') := fun W hb => refPg_is p X xc X2 xd W (HX.out.below hb)
        have C3 : Hid (∀ W, Below w2.heap.size w2 W → Calls Tryz.prog 9 #[.agg #[.slice A p.decls.length c, .slice B p.rules.length d], .agg #[.slice A' q.decls.length c', .slice B' q.rules.length d']] W fun r w' => r = .returned (.bool (samePg p q)) ∧ Below W.heap.size W w') := fun W hb => pgSame_is p q A c B d A' c' B' d' W (HV4.out.below hb) (HV4'.out.below hb)
        have C4 : Hid (∀ W, Below w2.heap.size w2 W → Calls Tryz.prog 10 #[.agg #[.slice X p.decls.length xc, .slice X2 p.rules.length xd], .agg #[.slice Y q.decls.length yc, .slice Y2 q.rules.length yd]] W fun r w' => r = .returned (.bool (samePg p q)) ∧ Below W.heap.size W w') := fun W hb => refPgSame_is p q X xc X2 xd Y yc Y2 yd W (HX.out.below hb) (HY.out.below hb)
        have C5 : Hid (∀ W, Below w2.heap.size w2 W → Calls Tryz.prog 9 #[.agg #[.slice A p.decls.length c, .slice B p.rules.length d], .agg #[.slice A p.decls.length c, .slice B p.rules.length d]] W fun r w' => r = .returned (.bool (true)) ∧ Below W.heap.size W w') := fun W hb => by
          have h := pgSame_is p p A c B d A c B d W (HV4.out.below hb) (HV4.out.below hb)
          rw [samePg_refl] at h
          exact h
        generalize formedB p = vf at C1 C2
        generalize samePg p q = vs at C3 C4
        have ef : (vf == vf) = true := by simp
        have es : (vs == vs) = true := by simp
        clear HP4 HQ4 HOx HOy HX HY HV4 HV4' HL4
        go_wp2_with fail
        go_region_held3 (fun w' => w'.cell? ⟨b1, 0, none⟩ = some (.slice A p.decls.length c) ∧ w'.cell? ⟨b1, 1, none⟩ = some (.slice B p.rules.length d) ∧ w'.cell? ⟨b2, 0, none⟩ = some (.slice A' q.decls.length c') ∧ w'.cell? ⟨b2, 1, none⟩ = some (.slice B' q.rules.length d') ∧ w'.cell? ⟨b5, 0, none⟩ = some (.slice X p.decls.length xc) ∧ w'.cell? ⟨b5, 1, none⟩ = some (.slice X2 p.rules.length xd) ∧ w'.cell? ⟨b6, 0, none⟩ = some (.slice Y q.decls.length yc) ∧ w'.cell? ⟨b6, 1, none⟩ = some (.slice Y2 q.rules.length yd) ∧ b1 < w'.heap.size ∧ b2 < w'.heap.size ∧ b5 < w'.heap.size ∧ b6 < w'.heap.size ∧ Below w2.heap.size w2 w')
          (first | (with_reducible assumption) | (with_reducible exact HS.out.step (Below.refl _ _).drew) | (with_reducible exact FwS.step (by assumption) hb) | go_keep)
          (first
            | (go_at_call 7; refine (C1.out _ ?_).mono ?_; exact FwS.low (by assumption); rintro e w' ⟨rfl, hb⟩)
            | (go_at_call 8; refine (C2.out _ ?_).mono ?_; exact FwS.low (by assumption); rintro e w' ⟨rfl, hb⟩)
            | (go_at_call 9; (first | (with_reducible refine (C3.out _ ?_).mono ?_) | (with_reducible refine (C5.out _ ?_).mono ?_)); exact FwS.low (by assumption); rintro e w' ⟨rfl, hb⟩)
            | (go_at_call 10; refine (C4.out _ ?_).mono ?_; exact FwS.low (by assumption); rintro e w' ⟨rfl, hb⟩))
        all_goals
          go_wp2
          go_ret
          exact ⟨rfl, HB4.out.trans ((FwS.low (by assumption)).mono HB4.out.size)⟩
end Go.Proofs.YtlfakhjcpdkaiaaGreatDoor

namespace Go.Proofs.YtlfakhjcpdkaiaaGreatDoor.termFormed
open Go.ChangeShapes Go.WideShapes Go.ChangeAt Go.RowKit Go.Joins
open Go.ChangeMaps (open_string shut_string)

theorem own : ownKnob Tryz.prog.godebug = none := by kernel_rfl

set_option maxRecDepth 100000 in
theorem contract (H : Type) (enc : TypeId × Value → H) (W : World) (base : Nat) (args : Array Value) (ds gs : List (DataW H)) (before : List MemPlace)
    (hval : ∀ (j : Nat) t v, Tryz.f3.params[j]? = some t → args[j]? = some v → Value.okWide Tryz.prog W .any base t v)
    (hW : DataW.Whole enc Tryz.prog Tryz.f3.params.toList Rows.termFormedSpec.vars false W args.toList ds gs before) (hz : (DataW.weightsEach Tryz.prog (Tryz.f3.params.toList ++ []) (ds ++ gs)).all (· ≤ reachBytes) = true) (hL : laidMetH Tryz.prog Rows.termFormedRow.laid W) :
    Calls Tryz.prog 3 args W fun e W' => ∃ v, e = .returned v ∧ Rows.termFormedSpec.post enc Tryz.prog Tryz.f3 false true false false W args v W' := by
  have hW0 := hW
  obtain ⟨p, q, hA0, hV, rfl, hfz, hnd⟩ := hW
  have hA : DataW.TrodAll enc Tryz.prog W 0 (fun _ => true) true Tryz.f3.params.toList args.toList ds p := hA0
  rw [Tryz.params3] at hA hval hz
  obtain ⟨v0, vs0, d0, ds0, p0, q0, hargs, rfl, rfl, h0, r0⟩ := trodAll_cons hA
  obtain ⟨v1, vs1, d1, ds1, p1, q1, rfl, rfl, rfl, h1, r1⟩ := trodAll_cons r0
  obtain ⟨rfl, rfl, rfl⟩ := trodAll_nil r1
  obtain rfl : args = #[v0, v1] := by cases args; simp_all
  obtain ⟨rfl, rfl⟩ := trodVars_none hV
  have hw : ∀ n ∈ DataW.weightsEach Tryz.prog _ _, n ≤ reachBytes := fun n hn => by simpa using List.all_eq_true.1 hz n hn
  have g0 := hval 0 25 v0 rfl rfl
  have g1 := hval 1 25 v1 rfl rfl
  obtain ⟨x, A, c, B, e, rfl, hV0⟩ := open_pg g0 h0 (fun n hn => hw n (DataW.weights_mem_each (j := 0) rfl rfl n hn))
  obtain ⟨y, A2, c2, B2, e2, rfl, hV1⟩ := open_pg g1 h1 (fun n hn => hw n (DataW.weights_mem_each (j := 1) rfl rfl n hn))
  refine (formed_walk x A c B e y A2 c2 B2 e2 W hV0 hV1 (lays hL)).mono fun e W' ⟨he, hb⟩ => ?_
  subst he
  exact ⟨_, rfl, law_post (tb := 4) (by kernel_rfl) (by kernel_rfl) (by kernel_rfl) Tryz.underlying4 rfl rfl hW0 hb⟩

set_option maxRecDepth 100000 in
/-- a start that fits: the heap that the start-up's own run leaves. -/
theorem laid_met (os : Os) : laidMetH Tryz.prog Rows.termFormedRow.laid ((World.doorLaid Tryz.prog 72 os).forCall (fun _ _ => 0) ⟨#[], #[.agg #[.slice none 0 0, .slice none 0 0], .agg #[.slice none 0 0, .slice none 0 0]], []⟩).memory :=
  laidMet_of_run' 8 (by kernel_rfl) (by kernel_rfl)
set_option maxRecDepth 100000 in
theorem reads (os : Os) {H : Type} (enc : TypeId × Value → H) : ∃ places, DataW.whole enc Tryz.prog ((World.doorLaid Tryz.prog 72 os).forCall (fun _ _ => 0) ⟨#[], #[.agg #[.slice none 0 0, .slice none 0 0], .agg #[.slice none 0 0, .slice none 0 0]], []⟩).memory Tryz.f3.params.toList Rows.termFormedSpec.vars false (#[.agg #[.slice none 0 0, .slice none 0 0], .agg #[.slice none 0 0, .slice none 0 0]] : Array Value).toList 8 = some ([.agg [.nil, .nil], .agg [.nil, .nil]], [], places) :=
  ⟨[], by kernel_rfl⟩

set_option maxRecDepth 100000 in
theorem lifted (os : Os) (started : os.Started) (H : Type) (enc : TypeId × Value → H) (F : Stop.Interp) :
    ReturnsInHanded {} Tryz.checked os 3 .any ((OpenSpec.ofChange Rows.termFormedSpec).preRow enc Tryz.prog Tryz.f3 Rows.termFormedRow.domain false Rows.termFormedRow.laid) (((OpenSpec.ofChange Rows.termFormedSpec).at F).post enc Tryz.prog Tryz.f3 false true false false) := by
  obtain ⟨places, hx⟩ := reads os enc
  refine returnsInHanded_of_row (C := Tryz.checked) (s := OpenSpec.ofChange Rows.termFormedSpec) own started (by kernel_rfl) Tryz.func3
    (witness_row_atRef (enc := enc) (C := Tryz.checked) false (World.doorLaid Tryz.prog 72 os) #[.agg #[.slice none 0 0, .slice none 0 0], .agg #[.slice none 0 0, .slice none 0 0]] rfl (by kernel_rfl) (by kernel_rfl) (by kernel_rfl)
      (OpenSpec.preRow_of_cond 8 hx (by kernel_rfl) (fun k hk => by cases hk) (by kernel_rfl) (laid_met os))) ?_
  intro W base args ds gs before hval hW _ _ hz hL _ _
  exact contract H enc W base args ds gs before hval hW hz hL

theorem said : Rows.TermFormedSaid :=
  OpenClaim.holds_of_cond 3 Tryz.f3 rfl rfl rfl rfl rfl rfl rfl ⟨rfl, rfl, rfl, rfl, rfl⟩ rfl rfl rfl rfl rfl (by kernel_rfl) Tryz.func3 (by kernel_rfl)
    (of_decide_eq_true (by kernel_rfl)) (by unfold Func.isWrapper; first | (rw [if_pos (by decide +kernel)]; kernel_rfl) | (rw [if_neg (by decide +kernel)]; exact ⟨rfl, rfl⟩))
    (fun os started H enc _ F => by rw [OpenClaim.pre_eq_preRow]; exact lifted os started H enc F)

theorem noStandIn : (#[25, 25] : Array TypeId).all (fun t => !Tryz.prog.wantsStandIn t) = true := by kernel_rfl
theorem plain (f : FuncId) (fn : Func) (hf : Tryz.pinned.checked.prog.funcNamed "corollary/corollarylaw05.TermFormed" = some f) (hfn : Tryz.pinned.checked.prog.funcs[f]? = some fn) :
    true = Tryz.pinned.checked.prog.looks [] ∧ ∀ (j : Nat) t, fn.params[j]? = some t → Tryz.pinned.checked.prog.wantsStandIn t = false := by
  obtain rfl : f = 3 := Option.some.inj ((show Tryz.prog.funcNamed "corollary/corollarylaw05.TermFormed" = some 3 by kernel_rfl).symm.trans hf) |>.symm
  obtain rfl : fn = Tryz.f3 := (Option.some.inj (Tryz.func3.symm.trans hfn)).symm
  refine ⟨by kernel_rfl, fun j t ht => ?_⟩
  rw [Tryz.params3] at ht
  have hm := Array.all_eq_true'.1 noStandIn t (Array.mem_of_getElem? ht)
  exact Bool.not_eq_true' _ ▸ hm

/-- THE CARD. -/
theorem card : Rows.TermFormedCardSaid :=
  Claim7.holds_tied_plain_at .later [] _ _ _ _ said (fun _ h => by cases h) (by kernel_rfl) (fun _ h => by cases h) termFormed_row_tie rfl ⟨rfl, rfl⟩ (by kernel_rfl) rfl plain (by kernel_rfl)
end Go.Proofs.YtlfakhjcpdkaiaaGreatDoor.termFormed
