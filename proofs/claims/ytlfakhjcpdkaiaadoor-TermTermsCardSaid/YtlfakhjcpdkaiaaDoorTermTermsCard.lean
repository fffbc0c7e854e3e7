/- What came in: a program, an expression, read as data. Conditions: the form's reach. TermTerms is true for every expression, text and stop: its terms come from the left, as far as they are asked for, as the document's do; and a text is a variable where the document says so. Conditions: none beyond the card's own (lex's tables and the library's variables as their initialisers lay them, tied to the program's text). -/
import Derived.Test.YtlfakhjcpdkaiaaDoorRows
import Derived.Test.YtlfakhjcpdkaiaaDoorTermB
import Derived.Test.YtlfakhjcpdkaiaaDoorLawKit
import Derived.Deep.Slices
import Derived.SizedLaws
import Derived.Test.YtlfakhjcpdkaiaaDoorCards
import Derived.Test.YtlfakhjcpdkaiaaDoorTie
import Derived.Test.YtlfakhjcpdkaiaaDoorTermTw2
import Derived.Test.YtlfakhjcpdkaiaaDoorLexTab
import Derived.Deep.DeepHandedRow
import Derived.Deep.DeepWitnessRowRef
import Derived.Lib.LaidTab
import Derived.Lib.SmallJoins
import Derived.Stop.LaidErr
import Derived.LaidMore
import Derived.Stop.Joined
set_option linter.unusedVariables false
set_option linter.unusedSimpArgs false
set_option maxRecDepth 100000
namespace Go.Proofs.YtlfakhjcpdkaiaaDoor
open Go.ChangeShapes Go.WideShapes Go.ChangeAt Go.RowKit Go.Joins Go.Deep

theorem weights_all {H : Type} {P : Program} {e : TypeId} {d : DataW H} {n : Nat} : ∀ {ds : List (DataW H)}, d ∈ ds → n ∈ d.weights P e → n ∈ DataW.weightsAll P e ds
  | x :: r, hd, hn => by
    simp only [DataW.weightsAll, List.mem_append]
    rcases List.mem_cons.1 hd with rfl | hd
    · exact .inl hn
    · exact .inr (weights_all hd hn)
theorem cell_plain {w : World} {a : Addr} {v : Value} (h : w.cell? a = some v) : a.spot = none ∧ a.block < w.heap.size := by
  have hb := World.block_lt_of_cell? w a h
  refine ⟨?_, hb⟩
  unfold World.cell? at h
  split at h
  · split at h
    · cases h
    · rename_i hs
      simpa using hs
  · cases h
theorem add_at {b o n : Nat} : Addr.add ⟨b, o, none⟩ n = ⟨b, o + n, none⟩ := by
  unfold Addr.add
  split
  · subst n; rfl
  · rfl
theorem choose_row {α : Type} {n : Nat} {p : Nat → α → Prop} (h : ∀ i, i < n → ∃ y, p i y) : ∃ l : List α, l.length = n ∧ ∀ i y, l[i]? = some y → p i y := by
  obtain ⟨f, hf⟩ : ∃ f : (i : Nat) → i < n → α, ∀ i hi, p i (f i hi) := ⟨fun i hi => (h i hi).choose, fun i hi => (h i hi).choose_spec⟩
  refine ⟨List.ofFn fun i : Fin n => f i.1 i.2, by simp, fun i y hy => ?_⟩
  rw [List.getElem?_eq_some_iff] at hy
  obtain ⟨hi, hy⟩ := hy
  simp only [List.getElem_ofFn] at hy
  subst hy
  exact hf _ _
theorem kcTm : Tryd.prog.cellsOf 26 = 4 := by kernel_rfl
theorem kcV : Tryd.prog.cellsOf 24 = 3 := by kernel_rfl
theorem kcK : Tryd.prog.cellsOf 22 = 1 := by kernel_rfl
theorem kcLk : Tryd.prog.cellsOf 61 = 1 := by kernel_rfl
theorem kcN : Tryd.prog.cellsOf 3 = 1 := by kernel_rfl
theorem kcSt : Tryd.prog.cellsOf 9 = 1 := by kernel_rfl
theorem kcEx : Tryd.prog.cellsOf 29 = 6 := by kernel_rfl
theorem kcAm : Tryd.prog.cellsOf 53 = 2 := by kernel_rfl
theorem kcLt : Tryd.prog.cellsOf 63 = 17 := by kernel_rfl
theorem kcRu : Tryd.prog.cellsOf 56 = 6 := by kernel_rfl
theorem kcDe : Tryd.prog.cellsOf 75 = 3 := by kernel_rfl
theorem kcPg : Tryd.prog.cellsOf 48 = 2 := by kernel_rfl
theorem kcS1 : Tryd.prog.cellsOf 51 = 1 := by kernel_rfl
theorem kcS2 : Tryd.prog.cellsOf 27 = 1 := by kernel_rfl
theorem kcS3 : Tryd.prog.cellsOf 54 = 1 := by kernel_rfl
theorem kcS4 : Tryd.prog.cellsOf 46 = 1 := by kernel_rfl
theorem kcS5 : Tryd.prog.cellsOf 45 = 1 := by kernel_rfl
theorem kcS6 : Tryd.prog.cellsOf 73 = 1 := by kernel_rfl

section
variable {H : Type} {enc : TypeId × Value → H} {W : World} {base : Nat} {sp : Nat → Bool} {held : Bool}
/-- each of a datum's blocks is within the reach. -/
def Rch (t : TypeId) (d : DataW H) : Prop := ∀ n ∈ d.weights Tryd.prog t, n ≤ 140737488351232
/-- the parts of a struct. -/
theorem tr_flds {t : TypeId} {fs : Array Field} {fuel : Nat} {cs : List Value} {x : DataW H × List MemPlace} (hu : Tryd.prog.underlying t = some (.struct fs)) (h : DataW.trod enc Tryd.prog W base sp held fuel t cs = some x) (hw : Rch t x.1) :
    ∃ n, fuel = n + 1 ∧ cs.length = Tryd.prog.cellsOf t ∧ ∀ (i : Nat) f, fs[i]? = some f → ∃ y, DataW.trod enc Tryd.prog W base sp held n f.type ((cs.drop f.offset).take (Tryd.prog.cellsOf f.type)) = some y ∧ Rch f.type y.1 := by
  obtain ⟨xs, n, hn, rfl, hl, hxl, hf⟩ := DataW.trod_struct hu h
  refine ⟨n, hn, hl, fun i f hi => ?_⟩
  have hlt : i < xs.length := by
    rw [hxl]
    exact (Array.getElem?_eq_some_iff.1 hi).1
  refine ⟨xs[i], (hf i f hi).trans (List.getElem?_eq_getElem hlt), fun m hm => hw m ?_⟩
  simp only [DataW.weights, hu]
  exact DataW.weights_mem_each (j := i) (by simp [hi]) (by simp [List.getElem?_eq_getElem hlt]) m hm
theorem tr_str {fuel : Nat} {cs : List Value} {x : DataW H × List MemPlace} (h : DataW.trod enc Tryd.prog W base sp held fuel 9 cs = some x) (hw : Rch 9 x.1) : ∃ s : ByteArray, cs = [.string s] ∧ s.size ≤ 140737488351232 := by
  obtain ⟨s, e2, e3, _⟩ := DataW.trod_string Tryd.underlying9 h
  refine ⟨s, e2, hw _ ?_⟩
  rw [e3]
  simp [DataW.weights]
theorem tr_int {t : TypeId} (hu : Tryd.prog.underlying t = some (.int .i64)) {fuel : Nat} {cs : List Value} {x : DataW H × List MemPlace} (h : DataW.trod enc Tryd.prog W base sp held fuel t cs = some x) : ∃ z : Int, cs = [.int .i64 z] ∧ -9223372036854775808 ≤ z ∧ z ≤ 9223372036854775807 := by
  obtain ⟨z, e0, _, hz⟩ := DataW.trod_int hu h
  refine ⟨z, e0, ?_⟩
  simp only [Lit.wf, Bool.and_eq_true, decide_eq_true_eq] at hz
  exact hz
theorem cells_at {b o K : Nat} {cs : List Value} (h : W.cells? base ⟨b, o, none⟩ K = some cs) : cs.length = K ∧ ∀ i, i < K → W.cell? ⟨b, o + i, none⟩ = cs[i]? := by
  obtain ⟨_, h1, h2⟩ := World.cells?_some h
  exact ⟨h1, fun i hi => by rw [← h2 i hi, add_at]⟩
/-- a row of things. -/
theorem tr_row {α : Type} {S E : TypeId} {K fuel : Nat} (Q : World → Nat → Nat → α → Prop) (hu : Tryd.prog.underlying S = some (.slice E)) (hK : Tryd.prog.cellsOf E = K) (hK0 : 0 < K) (hB : 0 < Tryd.prog.bytesOf E)
    (hel : ∀ n b o cs x, n < fuel → W.cells? base ⟨b, o, none⟩ K = some cs → DataW.trod enc Tryd.prog W base sp held n E cs = some x → Rch E x.1 → ∃ y, Q W b o y)
    {cs : List Value} {x : DataW H × List MemPlace} (h : DataW.trod enc Tryd.prog W base sp held fuel S cs = some x) (hw : Rch S x.1) :
    ∃ (A : Option Addr) (c : Nat) (l : List α), cs = [.slice A l.length c] ∧ Rg K Q W A l := by
  rcases DataW.trod_slice hu h with ⟨rfl, _⟩ | ⟨a, len, cap, elems, rest, n, hn, rfl, rfl, hb, hl, hm, hlen, hel', _, _⟩
  · exact ⟨none, 0, [], rfl, Rg.nil⟩
  · rw [hK] at hel'
    have hle : len ≤ 140737488351232 := by
      refine Nat.le_trans ?_ (hw ((elems.length + rest.length) * Tryd.prog.bytesOf E) (by simp [DataW.weights, hu]))
      rw [hlen]
      exact Nat.le_trans (Nat.le_add_right _ _) (Nat.le_mul_of_pos_right _ hB)
    by_cases h0 : len = 0
    · subst h0
      exact ⟨some a, cap, [], rfl, Rg.nil⟩
    · have hat : ∀ i, i < len → ∃ cs' y, W.cells? base (a.add (i * K)) K = some cs' ∧ DataW.trod enc Tryd.prog W base sp held n E cs' = some y ∧ Rch E y.1 := fun i hi => by
        have h1 := hel' i hi
        rw [List.getElem?_eq_getElem (by omega)] at h1
        obtain ⟨cs', h2, h3⟩ := Option.bind_eq_some_iff.1 h1
        refine ⟨cs', _, h2, h3, fun m hm => hw m ?_⟩
        simp only [DataW.weights, hu, List.mem_cons, List.mem_append]
        exact .inr (.inl (weights_all (List.mem_map.2 ⟨_, List.getElem_mem (by omega), rfl⟩) hm))
      obtain ⟨cs0, _, h2, _⟩ := hat 0 (by omega)
      obtain ⟨_, hl0, hc0⟩ := World.cells?_some h2
      have hc0 := hc0 0 hK0
      rw [List.getElem?_eq_getElem (by omega)] at hc0
      obtain ⟨hs0, hb0⟩ := cell_plain hc0
      obtain ⟨ab, ao, asp⟩ := a
      have hsp : asp = none := by simpa [Addr.add] using hs0
      subst hsp
      have hb1 : ab < W.heap.size := by simpa [Addr.add] using hb0
      obtain ⟨l, hll, hf⟩ := choose_row (n := len) (p := fun i y => Q W ab (ao + i * K) y) fun i hi => by
        obtain ⟨cs', y, h2, h3, h4⟩ := hat i hi
        rw [add_at] at h2
        exact hel n _ _ cs' y (by omega) h2 h3 h4
      subst hll
      exact ⟨_, cap, l, rfl, hle, fun _ => ⟨ab, ao, rfl, hb1, hf⟩⟩

theorem tr_tm {fuel : Nat} {cs : List Value} {x : DataW H × List MemPlace} (h : DataW.trod enc Tryd.prog W base sp held fuel 26 cs = some x) (hw : Rch 26 x.1) :
    ∃ t : TTm, cs = [.string t.v, .int .i64 t.k, .int .i64 t.n, .string t.s] ∧ okTm t := by
  obtain ⟨n, _, hl, hf⟩ := tr_flds Tryd.underlying26 h hw
  rw [kcTm] at hl
  match cs, hl with
  | [v0, v1, v2, v3], _ =>
    obtain ⟨y0, g0, r0⟩ := hf 0 _ rfl
    obtain ⟨y1, g1, r1⟩ := hf 1 _ rfl
    simp [kcSt, kcV] at g0 g1
    obtain ⟨s, e0, l0⟩ := tr_str g0 r0
    obtain ⟨m, _, _, hg⟩ := tr_flds Tryd.underlying24 g1 r1
    obtain ⟨z0, k0, q0⟩ := hg 0 _ rfl
    obtain ⟨z1, k1, q1⟩ := hg 1 _ rfl
    obtain ⟨z2, k2, q2⟩ := hg 2 _ rfl
    simp [kcK, kcN, kcSt] at k0 k1 k2
    obtain ⟨a, e1, _⟩ := tr_int Tryd.underlying22 k0
    obtain ⟨b, e2, _⟩ := tr_int Tryd.underlying3 k1
    obtain ⟨c, e3, l3⟩ := tr_str k2 q2
    simp at e0 e1 e2 e3
    subst e0 e1 e2 e3
    exact ⟨⟨s, a, b, c⟩, rfl, l0, l3⟩
theorem el_tm {n b o : Nat} {cs : List Value} {x : DataW H × List MemPlace} (hc : W.cells? base ⟨b, o, none⟩ 4 = some cs) (h : DataW.trod enc Tryd.prog W base sp held n 26 cs = some x) (hw : Rch 26 x.1) : ∃ t, TmC W b o t := by
  obtain ⟨t, rfl, ho⟩ := tr_tm h hw
  obtain ⟨_, h1⟩ := cells_at hc
  exact ⟨t, h1 0 (by omega), h1 1 (by omega), h1 2 (by omega), h1 3 (by omega), ho⟩
theorem tr_ex : ∀ (fuel : Nat) {cs : List Value} {x : DataW H × List MemPlace}, DataW.trod enc Tryd.prog W base sp held fuel 29 cs = some x → Rch 29 x.1 →
    ∃ (e : TEx) (A : Option Addr) (c : Nat), cs = [.int .i64 e.op, .string e.t.v, .int .i64 e.t.k, .int .i64 e.t.n, .string e.t.s, .slice A e.kids.length c] ∧ ExV W e A := by
  intro fuel
  induction fuel using Nat.strongRecOn with
  | _ fuel ih =>
    intro cs x h hw
    obtain ⟨n, hn, hl, hf⟩ := tr_flds Tryd.underlying29 h hw
    rw [kcEx] at hl
    match cs, hl with
    | [v0, v1, v2, v3, v4, v5], _ =>
      obtain ⟨y0, g0, r0⟩ := hf 0 _ rfl
      obtain ⟨y1, g1, r1⟩ := hf 1 _ rfl
      obtain ⟨y2, g2, r2⟩ := hf 2 _ rfl
      simp [kcN, kcTm, kcS2] at g0 g1 g2
      obtain ⟨z, e0, _⟩ := tr_int Tryd.underlying3 g0
      obtain ⟨t, e1, ht⟩ := tr_tm g1 r1
      obtain ⟨A, c, l, e2, hR⟩ := tr_row (K := 6) ExC Tryd.underlying27 kcEx (by decide) (by decide +kernel) (fun m b o cs' y hm hc hy hyw => by
        obtain ⟨e, A, c, e1, he⟩ := ih m (by omega) hy hyw
        subst e1
        obtain ⟨_, h1⟩ := cells_at hc
        exact ⟨e, ExC.shut (h1 0 (by omega)) (h1 1 (by omega)) (h1 2 (by omega)) (h1 3 (by omega)) (h1 4 (by omega)) (h1 5 (by omega)) he⟩) g2 r2
      simp at e0 e1 e2
      obtain ⟨e11, e12, e13, e14⟩ := e1
      subst e0 e11 e12 e13 e14 e2
      exact ⟨.mk z t l, A, c, rfl, ht, hR⟩
theorem tr_am {fuel : Nat} {cs : List Value} {x : DataW H × List MemPlace} (h : DataW.trod enc Tryd.prog W base sp held fuel 53 cs = some x) (hw : Rch 53 x.1) :
    ∃ (a : TAm) (A : Option Addr) (c : Nat), cs = [.string a.rel, .slice A a.args.length c] ∧ AmV W a A := by
  obtain ⟨n, _, hl, hf⟩ := tr_flds Tryd.underlying53 h hw
  rw [kcAm] at hl
  match cs, hl with
  | [v0, v1], _ =>
    obtain ⟨y0, g0, r0⟩ := hf 0 _ rfl
    obtain ⟨y1, g1, r1⟩ := hf 1 _ rfl
    simp [kcSt, kcS1] at g0 g1
    obtain ⟨s, e0, l0⟩ := tr_str g0 r0
    obtain ⟨A, c, l, e1, hR⟩ := tr_row (K := 4) TmC Tryd.underlying51 kcTm (by decide) (by decide +kernel) (fun m b o cs' y _ hc hy hyw => el_tm hc hy hyw) g1 r1
    simp at e0 e1
    subst e0 e1
    exact ⟨⟨s, l⟩, A, c, rfl, l0, hR⟩
theorem tr_lt {fuel : Nat} {cs : List Value} {x : DataW H × List MemPlace} (h : DataW.trod enc Tryd.prog W base sp held fuel 63 cs = some x) (hw : Rch 63 x.1) :
    ∃ (y : TLt) (A : Option Addr) (c : Nat) (L : Option Addr) (d : Nat) (R : Option Addr) (f : Nat), cs = [.int .i64 y.kind, .string y.atom.rel, .slice A y.atom.args.length c, .int .i64 y.op, .int .i64 y.left.op, .string y.left.t.v, .int .i64 y.left.t.k, .int .i64 y.left.t.n, .string y.left.t.s, .slice L y.left.kids.length d,
    .int .i64 y.right.op, .string y.right.t.v, .int .i64 y.right.t.k, .int .i64 y.right.t.n, .string y.right.t.s, .slice R y.right.kids.length f, .int .i64 y.pos] ∧ LtV W y A L R := by
  obtain ⟨n, _, hl, hf⟩ := tr_flds Tryd.underlying63 h hw
  rw [kcLt] at hl
  match cs, hl with
  | [v0, v1, v2, v3, v4, v5, v6, v7, v8, v9, v10, v11, v12, v13, v14, v15, v16], _ =>
    obtain ⟨y0, g0, r0⟩ := hf 0 _ rfl
    obtain ⟨y1, g1, r1⟩ := hf 1 _ rfl
    obtain ⟨y2, g2, r2⟩ := hf 2 _ rfl
    obtain ⟨y3, g3, r3⟩ := hf 3 _ rfl
    obtain ⟨y4, g4, r4⟩ := hf 4 _ rfl
    obtain ⟨y5, g5, r5⟩ := hf 5 _ rfl
    simp [kcN, kcLk, kcAm, kcEx] at g0 g1 g2 g3 g4 g5
    obtain ⟨k, e0, lo, hi⟩ := tr_int Tryd.underlying61 g0
    obtain ⟨a, A, c, e1, ha⟩ := tr_am g1 r1
    obtain ⟨p, e2, _⟩ := tr_int Tryd.underlying3 g2
    obtain ⟨l, L, d, e3, hL⟩ := tr_ex _ g3 r3
    obtain ⟨r, R, f, e4, hR⟩ := tr_ex _ g4 r4
    obtain ⟨q, e5, _⟩ := tr_int Tryd.underlying3 g5
    simp at e0 e1 e2 e3 e4 e5
    obtain ⟨e10, e11⟩ := e1
    obtain ⟨e30, e31, e32, e33, e34, e35⟩ := e3
    obtain ⟨e40, e41, e42, e43, e44, e45⟩ := e4
    subst e0 e10 e11 e2 e30 e31 e32 e33 e34 e35 e40 e41 e42 e43 e44 e45 e5
    exact ⟨⟨k, a, p, l, r, q⟩, A, c, L, d, R, f, rfl, ha, hL, hR, lo, hi⟩
theorem el_lt {n b o : Nat} {cs : List Value} {x : DataW H × List MemPlace} (hc : W.cells? base ⟨b, o, none⟩ 17 = some cs) (h : DataW.trod enc Tryd.prog W base sp held n 63 cs = some x) (hw : Rch 63 x.1) : ∃ t, LtC W b o t := by
  obtain ⟨t, A, c, L, d, R, f, rfl, hv⟩ := tr_lt h hw
  obtain ⟨_, h1⟩ := cells_at hc
  exact ⟨t, LtC.shut (A := A) (c := c) (L := L) (d := d) (R := R) (f := f) ⟨h1 0 (by omega), h1 1 (by omega), h1 2 (by omega), h1 3 (by omega), ⟨h1 4 (by omega), h1 5 (by omega), h1 6 (by omega), h1 7 (by omega), h1 8 (by omega), h1 9 (by omega)⟩,
    ⟨h1 10 (by omega), h1 11 (by omega), h1 12 (by omega), h1 13 (by omega), h1 14 (by omega), h1 15 (by omega)⟩, h1 16 (by omega)⟩ hv⟩
theorem el_ru {n b o : Nat} {cs : List Value} {x : DataW H × List MemPlace} (hc : W.cells? base ⟨b, o, none⟩ 6 = some cs) (h : DataW.trod enc Tryd.prog W base sp held n 56 cs = some x) (hw : Rch 56 x.1) : ∃ t, RuC W b o t := by
  obtain ⟨_, h1⟩ := cells_at hc
  obtain ⟨n, _, hl, hf⟩ := tr_flds Tryd.underlying56 h hw
  rw [kcRu] at hl
  match cs, hl with
  | [v0, v1, v2, v3, v4, v5], _ =>
    obtain ⟨y0, g0, r0⟩ := hf 0 _ rfl
    obtain ⟨y1, g1, r1⟩ := hf 1 _ rfl
    obtain ⟨y2, g2, r2⟩ := hf 2 _ rfl
    obtain ⟨y3, g3, r3⟩ := hf 3 _ rfl
    obtain ⟨y4, g4, r4⟩ := hf 4 _ rfl
    simp [kcN, kcAm, kcS3] at g0 g1 g2 g3 g4
    obtain ⟨a, A, c, e0, ha⟩ := tr_am g0 r0
    obtain ⟨p, e1, _⟩ := tr_int Tryd.underlying3 g1
    obtain ⟨q, e2, _⟩ := tr_int Tryd.underlying3 g2
    obtain ⟨B, d, l, e3, hR⟩ := tr_row (K := 17) LtC Tryd.underlying54 kcLt (by decide) (by decide +kernel) (fun m b o cs' y _ hc hy hyw => el_lt hc hy hyw) g3 r3
    obtain ⟨r, e4, _⟩ := tr_int Tryd.underlying3 g4
    simp at e0 e1 e2 e3 e4
    obtain ⟨e00, e01⟩ := e0
    subst e00 e01 e1 e2 e3 e4
    exact ⟨⟨a, p, q, l, r⟩, RuC.shut (A := A) (c := c) (B := B) (d := d) (h1 0 (by omega)) (h1 1 (by omega)) (h1 2 (by omega)) (h1 3 (by omega)) (h1 4 (by omega)) (h1 5 (by omega)) ⟨ha, hR⟩⟩
theorem el_de {n b o : Nat} {cs : List Value} {x : DataW H × List MemPlace} (hc : W.cells? base ⟨b, o, none⟩ 3 = some cs) (h : DataW.trod enc Tryd.prog W base sp held n 75 cs = some x) (hw : Rch 75 x.1) : ∃ t, DeC W b o t := by
  obtain ⟨_, h1⟩ := cells_at hc
  obtain ⟨n, _, hl, hf⟩ := tr_flds Tryd.underlying75 h hw
  rw [kcDe] at hl
  match cs, hl with
  | [v0, v1, v2], _ =>
    obtain ⟨y0, g0, r0⟩ := hf 0 _ rfl
    obtain ⟨y1, g1, r1⟩ := hf 1 _ rfl
    obtain ⟨y2, g2, r2⟩ := hf 2 _ rfl
    simp [kcN, kcSt, kcS6] at g0 g1 g2
    obtain ⟨s, e0, l0⟩ := tr_str g0 r0
    obtain ⟨A, c, l, e1, hR⟩ := tr_row (K := 1) IntC Tryd.underlying73 kcK (by decide) (by decide +kernel) (fun m b o cs' y _ hc hy hyw => by
      obtain ⟨z, rfl, _⟩ := tr_int Tryd.underlying22 hy
      obtain ⟨_, h1⟩ := cells_at hc
      exact ⟨z, h1 0 (by omega)⟩) g1 r1
    obtain ⟨r, e2, _⟩ := tr_int Tryd.underlying3 g2
    simp at e0 e1 e2
    subst e0 e1 e2
    exact ⟨⟨s, l, r⟩, h1 0 (by omega), ⟨A, c, h1 1 (by omega), hR⟩, h1 2 (by omega), l0⟩
theorem tr_pg {fuel : Nat} {cs : List Value} {x : DataW H × List MemPlace} (h : DataW.trod enc Tryd.prog W base sp held fuel 48 cs = some x) (hw : Rch 48 x.1) :
    ∃ (p : TPg) (A : Option Addr) (c : Nat) (B : Option Addr) (d : Nat), cs = [.slice A p.decls.length c, .slice B p.rules.length d] ∧ PgV W p A B := by
  obtain ⟨n, _, hl, hf⟩ := tr_flds Tryd.underlying48 h hw
  rw [kcPg] at hl
  match cs, hl with
  | [v0, v1], _ =>
    obtain ⟨y0, g0, r0⟩ := hf 0 _ rfl
    obtain ⟨y1, g1, r1⟩ := hf 1 _ rfl
    simp [kcS4, kcS5] at g0 g1
    obtain ⟨A, c, l, e0, hA⟩ := tr_row (K := 3) DeC Tryd.underlying45 kcDe (by decide) (by decide +kernel) (fun m b o cs' y _ hc hy hyw => el_de hc hy hyw) g0 r0
    obtain ⟨B, d, m, e1, hB⟩ := tr_row (K := 6) RuC Tryd.underlying46 kcRu (by decide) (by decide +kernel) (fun m b o cs' y _ hc hy hyw => el_ru hc hy hyw) g1 r1
    simp at e0 e1
    subst e0 e1
    exact ⟨⟨l, m⟩, A, c, B, d, rfl, hA, hB⟩
theorem open_pg {b0 : Nat} {r : Reach} {v : Value} {d : DataW H} {p : List MemPlace} (hv : Value.okWide Tryd.prog W r b0 48 v) (h : DataW.Trod enc Tryd.prog W base sp held 48 v d p) (hs : ∀ n ∈ d.weights Tryd.prog 48, n ≤ reachBytes) :
    ∃ (q : TPg) (A : Option Addr) (c : Nat) (B : Option Addr) (e : Nat), v = pgV q A c B e ∧ PgV W q A B := by
  obtain ⟨cs, rfl, _⟩ := okWide_struct Tryd.underlying48 hv
  obtain ⟨fuel, hf⟩ := h
  have hf : DataW.trod enc Tryd.prog W base sp held fuel 48 cs.toList = some (d, p) := hf
  obtain ⟨q, A, c, B, e, h1, h2⟩ := tr_pg hf hs
  obtain ⟨cs⟩ := cs
  simp only at h1
  subst h1
  exact ⟨q, A, c, B, e, rfl, h2⟩
theorem open_ex {b0 : Nat} {r : Reach} {v : Value} {d : DataW H} {p : List MemPlace} (hv : Value.okWide Tryd.prog W r b0 29 v) (h : DataW.Trod enc Tryd.prog W base sp held 29 v d p) (hs : ∀ n ∈ d.weights Tryd.prog 29, n ≤ reachBytes) :
    ∃ (e : TEx) (A : Option Addr) (c : Nat), v = exV e A c ∧ ExV W e A := by
  obtain ⟨cs, rfl, _⟩ := okWide_struct Tryd.underlying29 hv
  obtain ⟨fuel, hf⟩ := h
  have hf : DataW.trod enc Tryd.prog W base sp held fuel 29 cs.toList = some (d, p) := hf
  obtain ⟨e, A, c, h1, h2⟩ := tr_ex _ hf hs
  obtain ⟨cs⟩ := cs
  simp only at h1
  subst h1
  exact ⟨e, A, c, rfl, h2⟩
end
end Go.Proofs.YtlfakhjcpdkaiaaDoor

namespace Go.Proofs.YtlfakhjcpdkaiaaDoor.termTerms
open Go.ChangeShapes Go.WideShapes Go.ChangeAt Go.RowKit Go.Joins
open Go.ChangeMaps (open_string shut_string)

theorem own : ownKnob Tryd.prog.godebug = none := by kernel_rfl

set_option maxRecDepth 100000 in
theorem contract (H : Type) (enc : TypeId × Value → H) (W : World) (base : Nat) (args : Array Value) (ds gs : List (DataW H)) (before : List MemPlace)
    (hval : ∀ (j : Nat) t v, Tryd.f3.params[j]? = some t → args[j]? = some v → Value.okWide Tryd.prog W .any base t v)
    (hW : DataW.Whole enc Tryd.prog Tryd.f3.params.toList Rows.termTermsSpec.vars false W args.toList ds gs before) (hz : (DataW.weightsEach Tryd.prog (Tryd.f3.params.toList ++ []) (ds ++ gs)).all (· ≤ reachBytes) = true) (hL : laidMetH Tryd.prog Rows.termTermsRow.laid W) :
    Calls Tryd.prog 3 args W fun e W' => ∃ v, e = .returned v ∧ Rows.termTermsSpec.post enc Tryd.prog Tryd.f3 false true false false W args v W' := by
  have hW0 := hW
  obtain ⟨p, q, hA0, hV, rfl, hfz, hnd⟩ := hW
  have hA : DataW.TrodAll enc Tryd.prog W 0 (fun _ => true) true Tryd.f3.params.toList args.toList ds p := hA0
  rw [Tryd.params3] at hA hval hz
  obtain ⟨v0, vs0, d0, ds0, p0, q0, hargs, rfl, rfl, h0, r0⟩ := trodAll_cons hA
  obtain ⟨v1, vs1, d1, ds1, p1, q1, rfl, rfl, rfl, h1, r1⟩ := trodAll_cons r0
  obtain ⟨v2, vs2, d2, ds2, p2, q2, rfl, rfl, rfl, h2, r2⟩ := trodAll_cons r1
  obtain ⟨rfl, rfl, rfl⟩ := trodAll_nil r2
  obtain rfl : args = #[v0, v1, v2] := by cases args; simp_all
  obtain ⟨rfl, rfl⟩ := trodVars_none hV
  have hw : ∀ n ∈ DataW.weightsEach Tryd.prog _ _, n ≤ reachBytes := fun n hn => by simpa using List.all_eq_true.1 hz n hn
  have g0 := hval 0 29 v0 rfl rfl
  have g1 := hval 1 9 v1 rfl rfl
  have g2 := hval 2 3 v2 rfl rfl
  obtain ⟨e, A, c, rfl, hV0⟩ := open_ex g0 h0 (fun n hn => hw n (DataW.weights_mem_each (j := 0) rfl rfl n hn))
  obtain ⟨s, rfl, rfl, rfl, s1⟩ := open_string Tryd.underlying9 g1 h1
  obtain ⟨st, rfl, rfl, rfl, _⟩ := open_int Tryd.underlying3 g2 h2
  refine (tterms_walk e A c s st W hV0 (by have h := hw s.data.toList.length (DataW.weights_mem_each (j := 1) rfl rfl _ (by simp [DataW.weights])); simpa [reachBytes] using h) (lays hL)).mono fun e W' ⟨he, hb⟩ => ?_
  subst he
  exact ⟨_, rfl, law_post (tb := 4) (by kernel_rfl) (by kernel_rfl) (by kernel_rfl) Tryd.underlying4 rfl rfl hW0 hb⟩

set_option maxRecDepth 100000 in
/-- a start that fits: the heap that the start-up's own run leaves. -/
theorem laid_met (os : Os) : laidMetH Tryd.prog Rows.termTermsRow.laid ((World.doorLaid Tryd.prog 72 os).forCall (fun _ _ => 0) ⟨#[], #[.agg #[.int .i64 0, .string ⟨#[]⟩, .int .i64 0, .int .i64 0, .string ⟨#[]⟩, .slice none 0 0], .string ⟨#[]⟩, .int .i64 0], []⟩).memory :=
  laidMet_of_run' 8 (by kernel_rfl) (by kernel_rfl)
set_option maxRecDepth 100000 in
theorem reads (os : Os) {H : Type} (enc : TypeId × Value → H) : ∃ places, DataW.whole enc Tryd.prog ((World.doorLaid Tryd.prog 72 os).forCall (fun _ _ => 0) ⟨#[], #[.agg #[.int .i64 0, .string ⟨#[]⟩, .int .i64 0, .int .i64 0, .string ⟨#[]⟩, .slice none 0 0], .string ⟨#[]⟩, .int .i64 0], []⟩).memory Tryd.f3.params.toList Rows.termTermsSpec.vars false (#[.agg #[.int .i64 0, .string ⟨#[]⟩, .int .i64 0, .int .i64 0, .string ⟨#[]⟩, .slice none 0 0], .string ⟨#[]⟩, .int .i64 0] : Array Value).toList 8 = some ([.agg [.lit (.int .i64 0), .agg [.lit (.string []), .agg [.lit (.int .i64 0), .lit (.int .i64 0), .lit (.string [])]], .nil], .lit (.string []), .lit (.int .i64 0)], [], places) :=
  ⟨[], by kernel_rfl⟩

set_option maxRecDepth 100000 in
theorem lifted (os : Os) (started : os.Started) (H : Type) (enc : TypeId × Value → H) (F : Stop.Interp) :
    ReturnsInHanded {} Tryd.checked os 3 .any ((OpenSpec.ofChange Rows.termTermsSpec).preRow enc Tryd.prog Tryd.f3 Rows.termTermsRow.domain false Rows.termTermsRow.laid) (((OpenSpec.ofChange Rows.termTermsSpec).at F).post enc Tryd.prog Tryd.f3 false true false false) := by
  obtain ⟨places, hx⟩ := reads os enc
  refine returnsInHanded_of_row (C := Tryd.checked) (s := OpenSpec.ofChange Rows.termTermsSpec) own started (by kernel_rfl) Tryd.func3
    (witness_row_atRef (enc := enc) (C := Tryd.checked) false (World.doorLaid Tryd.prog 72 os) #[.agg #[.int .i64 0, .string ⟨#[]⟩, .int .i64 0, .int .i64 0, .string ⟨#[]⟩, .slice none 0 0], .string ⟨#[]⟩, .int .i64 0] rfl (by kernel_rfl) (by kernel_rfl) (by kernel_rfl)
      (OpenSpec.preRow_of_cond 8 hx (by kernel_rfl) (fun k hk => by cases hk) (by kernel_rfl) (laid_met os))) ?_
  intro W base args ds gs before hval hW _ _ hz hL _ _
  exact contract H enc W base args ds gs before hval hW hz hL

theorem said : Rows.TermTermsSaid :=
  OpenClaim.holds_of_cond 3 Tryd.f3 rfl rfl rfl rfl rfl rfl rfl ⟨rfl, rfl, rfl, rfl, rfl⟩ rfl rfl rfl rfl rfl (by kernel_rfl) Tryd.func3 (by kernel_rfl)
    (of_decide_eq_true (by kernel_rfl)) (by unfold Func.isWrapper; first | (rw [if_pos (by decide +kernel)]; kernel_rfl) | (rw [if_neg (by decide +kernel)]; exact ⟨rfl, rfl⟩))
    (fun os started H enc _ F => by rw [OpenClaim.pre_eq_preRow]; exact lifted os started H enc F)

theorem noStandIn : (#[29, 9, 3] : Array TypeId).all (fun t => !Tryd.prog.wantsStandIn t) = true := by kernel_rfl
theorem plain (f : FuncId) (fn : Func) (hf : Tryd.pinned.checked.prog.funcNamed "corollary/corollarylaw05.TermTerms" = some f) (hfn : Tryd.pinned.checked.prog.funcs[f]? = some fn) :
    true = Tryd.pinned.checked.prog.looks [] ∧ ∀ (j : Nat) t, fn.params[j]? = some t → Tryd.pinned.checked.prog.wantsStandIn t = false := by
  obtain rfl : f = 3 := Option.some.inj ((show Tryd.prog.funcNamed "corollary/corollarylaw05.TermTerms" = some 3 by kernel_rfl).symm.trans hf) |>.symm
  obtain rfl : fn = Tryd.f3 := (Option.some.inj (Tryd.func3.symm.trans hfn)).symm
  refine ⟨by kernel_rfl, fun j t ht => ?_⟩
  rw [Tryd.params3] at ht
  have hm := Array.all_eq_true'.1 noStandIn t (Array.mem_of_getElem? ht)
  exact Bool.not_eq_true' _ ▸ hm

/-- THE CARD. -/
theorem card : Rows.TermTermsCardSaid :=
  Claim7.holds_tied_plain_at .later [] _ _ _ _ said (fun _ h => by cases h) (by kernel_rfl) (fun _ h => by cases h) termTerms_row_tie rfl ⟨rfl, rfl⟩ (by kernel_rfl) rfl plain (by kernel_rfl)
end Go.Proofs.YtlfakhjcpdkaiaaDoor.termTerms
