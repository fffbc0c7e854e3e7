/- A table of texts that is laid reads, cell for cell, as its texts; what the rows' laid variables come to. Conditions: none. A law's end, once for all laws of this seat: a call that returns true and lays nothing but new blocks meets 'true; each argument reads as it did'. Conditions: none. What came in: a program, an expression, read as data. Conditions: the form's reach. The table of words that is laid reads, cell for cell, as its words. Conditions: none. -/
import Derived.Test.YtolnikpihedmbaaGreatDoorRows
import Derived.Test.YtolnikpihedmbaaGreatDoorPbD
import Derived.Lib.LaidTab
import Derived.Stop.LaidErr
import Derived.LaidMore
import Derived.WalkKit
import Derived.ProofKit
import Derived.OpenShut
import Derived.Carry
import Derived.Lib.SmallJoins
import Derived.Test.YtolnikpihedmbaaGreatDoorPbG
import Derived.Deep.Slices
import Derived.SizedLaws
import Derived.Test.YtolnikpihedmbaaGreatDoorPbParY
namespace Go.Proofs.YtolnikpihedmbaaGreatDoor
open Go.Lib Go.RowKit

def strData {H : Type} (ls : List (List UInt8)) : DataW H := .agg (ls.map fun l => .lit (.string l))
theorem cells_of_strs {H : Type} {enc : TypeId × Value → H} {P : Program} {w : World} {base : Nat} {sp : Nat → Bool} {held : Bool} {fuel : Nat} {t e : TypeId} {n : Nat} {cs : List Value} {ls : List (List UInt8)} {p : List MemPlace}
    (ht : P.underlying t = some (.array n e)) (he : P.underlying e = some .string) (hce : P.cellsOf e = 1) (hct : P.cellsOf t = n)
    (h : DataW.trod enc P w base sp held fuel t cs = some (strData ls, p)) : cs = ls.map fun l => Value.string (bts l) := by
  cases fuel with
  | zero => simp [DataW.trod] at h
  | succ fuel =>
    simp only [DataW.trod, ht, hce, hct, Nat.mul_one] at h
    split at h
    · rename_i hl
      obtain ⟨xs, hm, hx⟩ := Option.map_eq_some_iff.1 h
      have hxs : xs.map (·.1) = ls.map fun l => (DataW.lit (.string l) : DataW H) := by
        have := congrArg Prod.fst hx
        simpa [strData] using this
      have hxl : xs.length = n := by simpa using mapM_length hm
      have hzl : ls.length = n := by
        have := congrArg List.length hxs
        simp at this
        omega
      apply List.ext_getElem?
      intro i
      by_cases hi : i < n
      · obtain ⟨b, hb, hf⟩ := mapM_at hm i i (by simp [hi])
        obtain ⟨s, hc, rfl, _⟩ := DataW.trod_string he hf
        have h1 : cs[i]? = some (.string s) := by
          have := congrArg (·[0]?) hc
          simpa [List.getElem?_take, List.getElem?_drop] using this
        have h2 : (xs.map (·.1))[i]? = some (DataW.lit (.string s.data.toList) : DataW H) := by simp [hb]
        rw [hxs] at h2
        simp only [List.getElem?_map, Option.map_eq_some_iff, DataW.lit.injEq, Lit.string.injEq] at h2
        obtain ⟨l, hl', e1⟩ := h2
        have e2 : bts l = s := by rw [e1]
        simp [h1, hl', e2]
      · rw [List.getElem?_eq_none (by omega), List.getElem?_eq_none (by simp; omega)]
    · cases h
theorem strs_of_head {P : Program} {W : World} {name : String} {ls : List (List UInt8)} {rest : List (String × DataW Unit)} {g : Nat} {t e : TypeId} {n : Nat}
    (hg : P.globalNamed name = some g) (hty : (P.globals[g]?).map (·.type) = some t) (ht : P.underlying t = some (.array n e)) (he : P.underlying e = some .string) (hce : P.cellsOf e = 1) (hct : P.cellsOf t = n)
    (h : laidMet P ((name, strData ls) :: rest) W) : ∀ (j : Nat) x, ls[j]? = some x → W.cell? ⟨g, j, none⟩ = some (.string (bts x)) := by
  obtain ⟨ps, ⟨g', t', cs, fuel, p, q, hg', ht', hvar, hd, _, _⟩, _⟩ := h
  obtain rfl := Option.some.inj (hg.symm.trans hg')
  obtain rfl := Option.some.inj (hty.symm.trans ht')
  intro j x hx
  have hc := World.var?_cell hg hvar j
  rw [hc]
  have := cells_of_strs ht he hce hct hd
  rw [← Array.getElem?_toList, this]
  simp [hx]

theorem gTabType : (Tryz.prog.globals[6]?).map (·.type) = some 189 := by kernel_rfl
theorem cellsT : Tryz.prog.cellsOf 189 = 20 := by kernel_rfl
theorem cellsE : Tryz.prog.cellsOf 170 = 1 := by kernel_rfl
theorem star : "*" ++ "errors.errorString" = "*errors.errorString" := by decide
theorem rowErr (u : TypeId) (h : Tryz.prog.typeName? 3 u = some "*errors.errorString") : u = 178 :=
  typeName_ptr_named (nm := "errors.errorString") (by rw [star]; kernel_rfl) (by kernel_rfl) (by decide) u (by rw [star]; exact h)
theorem gSynType : (Tryz.prog.globals[4]?).map (·.type) = some 28 := by kernel_rfl
theorem gRngType : (Tryz.prog.globals[5]?).map (·.type) = some 28 := by kernel_rfl
theorem cellsErr : Tryz.prog.cellsOf 180 = 1 := by kernel_rfl
theorem cellsStr : Tryz.prog.cellsOf 9 = 1 := by kernel_rfl
theorem gKeys : Tryz.prog.globalNamed "corollary/lex.keys" = some 2 := by kernel_rfl
theorem gSigns : Tryz.prog.globalNamed "corollary/lex.signs" = some 1 := by kernel_rfl
theorem gKeysType : (Tryz.prog.globals[2]?).map (·.type) = some 156 := by kernel_rfl
theorem gSignsType : (Tryz.prog.globals[1]?).map (·.type) = some 150 := by kernel_rfl
theorem cellsK : Tryz.prog.cellsOf 156 = 8 := by kernel_rfl
theorem cellsS : Tryz.prog.cellsOf 150 = 14 := by kernel_rfl
/-- the rows' laid variables, as the walks take them. -/
theorem lays {W : World} (h : laidMetH Tryz.prog Rows.parseFormedRow.laid W) : Lays W := by
  have h2 := laidMet.tail (laidMet.tail h)
  have h3 := laidMet.tail h2
  have h5 := laidMet.tail (laidMet.tail h3)
  have h6 := laidMet.tail h5
  obtain ⟨a0, _, v0, _⟩ := laid_sentinel h3 gRng gRngType Tryz.underlying28 rowErr Tryz.underlying178 Tryz.underlying180 rfl rfl Tryz.underlying9 cellsErr cellsStr
  obtain ⟨a1, _, v1, _⟩ := laid_sentinel (laidMet.tail h3) gSyn gSynType Tryz.underlying28 rowErr Tryz.underlying178 Tryz.underlying180 rfl rfl Tryz.underlying9 cellsErr cellsStr
  exact ⟨strs_of_head (ls := keysL) (rest := _) gKeys gKeysType Tryz.underlying156 Tryz.underlying9 cellsStr cellsK h5, strs_of_head (ls := signsL) (rest := _) gSigns gSignsType Tryz.underlying150 Tryz.underlying9 cellsStr cellsS h6,
    Lib.tabIs_of_head (rest := _) gPow gTabType Tryz.underlying189 Tryz.underlying170 cellsE cellsT h2, ⟨_, _, v1⟩, ⟨_, _, v0⟩⟩
end Go.Proofs.YtolnikpihedmbaaGreatDoor

namespace Go.Proofs.YtolnikpihedmbaaGreatDoor
open Go.ChangeShapes Go.WideShapes Go.ChangeAt Go.RowKit Go.Joins

theorem trodAll_below {H : Type} {enc : TypeId × Value → H} {P : Program} (hl : laidOutB P = true) {W W' : World} (hb : Below W.heap.size W W') :
    ∀ {ts : List TypeId} {vs : List Value} {ds : List (DataW H)} {ps : List MemPlace}, (ts.all fun t => P.readableRec t && decide (t < P.types.size)) = true →
      DataW.TrodAll enc P W 0 (fun _ => true) true ts vs ds ps → (∀ x ∈ ps, x.block < W.heap.size) → DataW.TrodAll enc P W' 0 (fun b => decide (b < W.heap.size)) true ts vs ds ps
  | [], vs, ds, ps, _, h, _ => by
    obtain ⟨rfl, rfl, rfl⟩ := trodAll_nil h
    exact trodAll_mk0
  | t :: ts, vs, ds, ps, ht, h, hp => by
    simp only [List.all_cons, Bool.and_eq_true, decide_eq_true_eq] at ht
    obtain ⟨v, vs', d, ds', p, p', rfl, rfl, rfl, h0, hr⟩ := trodAll_cons h
    exact trodAll_cons_mk (Below.trod hl ht.1.1 ht.1.2 h0 hb fun x hx => hp x (by simp [hx])) (trodAll_below hl hb (by simpa using ht.2) hr fun x hx => hp x (by simp [hx]))

theorem law_post {H : Type} {enc : TypeId × Value → H} {P : Program} {f : Func} {s : ChangeSpec} {W W' : World} {args : Array Value} {ds : List (DataW H)} {before : List MemPlace} {tb : TypeId}
    (hl : laidOutB P = true) (ht : (f.params.toList.all fun t => P.readableRec t && decide (t < P.types.size)) = true) (hr : f.resultTypes = #[tb]) (hu : P.underlying tb = some .bool) (hvs : s.vars = [])
    (hs : s.fn H (ds ++ []) = { results := [.lit (.bool true)], args := ds })
    (hW : DataW.Whole enc P f.params.toList s.vars false W args.toList ds [] before) (hb : Below W.heap.size W W') : s.post enc P f false true false false W args (.bool true) W' := by
  have hW' := hW
  have hlt := hW.lt
  obtain ⟨p, q, hA, hV, hpq, hfz, hnd⟩ := hW
  rw [hvs] at hV
  obtain ⟨_, rfl⟩ := trodVars_none hV
  refine ⟨ds, [], before, [], p, [], hW', ?_, ?_, ?_, hb.frame _, fun h => by cases h⟩
  · rw [hs, hr]
    exact trodAll_cons_mk (shut_bool hu _) trodAll_mk0
  · rw [hs]
    exact trodAll_below hl hb ht hA fun x hx => hlt x (by rw [hpq]; simp [hx])
  · rw [hs, hvs]
    rfl

end Go.Proofs.YtolnikpihedmbaaGreatDoor

set_option linter.unusedVariables false
set_option linter.unusedSimpArgs false
set_option maxRecDepth 100000
namespace Go.Proofs.YtolnikpihedmbaaGreatDoor
open Go.ChangeShapes Go.WideShapes Go.ChangeAt Go.RowKit Go.Joins Go.Deep

theorem kcN : Tryz.prog.cellsOf 3 = 1 := by kernel_rfl
theorem kcSt : Tryz.prog.cellsOf 9 = 1 := by kernel_rfl
section
variable {H : Type} {enc : TypeId × Value → H} {W : World} {base : Nat} {sp : Nat → Bool} {held : Bool}
end
end Go.Proofs.YtolnikpihedmbaaGreatDoor

set_option linter.unusedVariables false
set_option linter.unusedSimpArgs false
namespace Go.Proofs.YtolnikpihedmbaaGreatDoor
open Go.Lib Go.RowKit

theorem word_cells {H : Type} {enc : TypeId × Value → H} {W : World} {base : Nat} {sp : Nat → Bool} {held : Bool} {fuel : Nat} {cs : List Value} {x : DataW H × List MemPlace} {g n : Int} {t : List UInt8}
    (h : DataW.trod enc Tryz.prog W base sp held fuel 145 cs = some x) (hx : x.1 = .agg [.lit (.int .i64 g), .lit (.string t), .lit (.int .i64 n)]) : cs = [.int .i64 g, .string (bts t), .int .i64 n] := by
  obtain ⟨xs, m, hn, rfl, hl, hxl, hf⟩ := DataW.trod_struct Tryz.underlying145 h
  have hc3 : Tryz.prog.cellsOf 145 = 3 := by kernel_rfl
  have hcg : Tryz.prog.cellsOf 119 = 1 := by kernel_rfl
  rw [hc3] at hl
  obtain ⟨c0, c1, c2, rfl⟩ : ∃ c0 c1 c2, cs = [c0, c1, c2] := by
    rcases cs with _ | ⟨c0, _ | ⟨c1, _ | ⟨c2, _ | ⟨c3, r⟩⟩⟩⟩ <;> simp at hl
    exact ⟨c0, c1, c2, rfl⟩
  simp only [DataW.agg.injEq] at hx
  obtain ⟨y0, y1, y2, rfl⟩ : ∃ y0 y1 y2, xs = [y0, y1, y2] := by
    have hlen := congrArg List.length hx
    rcases xs with _ | ⟨c0, _ | ⟨c1, _ | ⟨c2, _ | ⟨c3, r⟩⟩⟩⟩ <;> simp at hlen
    exact ⟨c0, c1, c2, rfl⟩
  simp only [List.map_cons, List.map_nil, List.cons.injEq, and_true] at hx
  obtain ⟨hx0, hx1, hx2⟩ := hx
  have f0 := hf 0 _ rfl
  have f1 := hf 1 _ rfl
  have f2 := hf 2 _ rfl
  simp [hcg, kcSt, kcN] at f0 f1 f2
  obtain ⟨z0, e0, d0, _⟩ := DataW.trod_int Tryz.underlying119 f0
  obtain ⟨s1, e1, d1, _⟩ := DataW.trod_string Tryz.underlying9 f1
  obtain ⟨z2, e2, d2, _⟩ := DataW.trod_int Tryz.underlying3 f2
  rw [d0] at hx0
  rw [d1] at hx1
  rw [d2] at hx2
  simp only [DataW.lit.injEq, Lit.int.injEq, Lit.string.injEq, true_and] at hx0 hx1 hx2
  simp at e0 e1 e2
  rw [e0, e1, e2, hx0, hx2, ← hx1, bts_of]
def wordData {H : Type} (ls : List (Nat × List UInt8 × Nat)) : DataW H := .agg (ls.map fun x => .agg [.lit (.int .i64 (x.1 : Int)), .lit (.string x.2.1), .lit (.int .i64 (x.2.2 : Int))])
theorem words_cells {H : Type} {enc : TypeId × Value → H} {w : World} {base : Nat} {sp : Nat → Bool} {held : Bool} {fuel : Nat} {cs : List Value} {p : List MemPlace}
    (h : DataW.trod enc Tryz.prog w base sp held fuel 146 cs = some (wordData wordsL, p)) : ∀ (j : Nat) x, wordsL[j]? = some x → cs[j * 3]? = some (.int .i64 (x.1 : Int)) ∧ cs[j * 3 + 1]? = some (.string (bts x.2.1)) ∧ cs[j * 3 + 2]? = some (.int .i64 (x.2.2 : Int)) := by
  have hct : Tryz.prog.cellsOf 146 = 45 := by kernel_rfl
  have hce : Tryz.prog.cellsOf 145 = 3 := by kernel_rfl
  cases fuel with
  | zero => simp [DataW.trod] at h
  | succ fuel =>
    simp only [DataW.trod, Tryz.underlying146, hce, hct] at h
    split at h
    · rename_i hl
      obtain ⟨xs, hm, hx⟩ := Option.map_eq_some_iff.1 h
      have hxs : xs.map (·.1) = wordsL.map fun x => (.agg [.lit (.int .i64 (x.1 : Int)), .lit (.string x.2.1), .lit (.int .i64 (x.2.2 : Int))] : DataW H) := by
        have := congrArg Prod.fst hx
        simpa [wordData] using this
      intro i x hi
      have hi15 : i < 15 := (List.getElem?_eq_some_iff.1 hi).1
      obtain ⟨b, hb, hf⟩ := mapM_at hm i i (by simp [hi15])
      have h2 : (xs.map (·.1))[i]? = some b.1 := by simp [hb]
      rw [hxs] at h2
      simp only [List.getElem?_map, hi, Option.map_some, Option.some.injEq] at h2
      have hc := word_cells hf h2.symm
      have g : ∀ j, j < 3 → cs[i * 3 + j]? = ([.int .i64 (x.1 : Int), .string (bts x.2.1), .int .i64 (x.2.2 : Int)] : List Value)[j]? := fun j hj => by
        rw [← hc, List.getElem?_take, if_pos hj, List.getElem?_drop]
      exact ⟨g 0 (by decide), g 1 (by decide), g 2 (by decide)⟩
    · cases h
theorem gWords : Tryz.prog.globalNamed "corollary/parse.words" = some 0 := by kernel_rfl
theorem gWordsType : (Tryz.prog.globals[0]?).map (·.type) = some 146 := by kernel_rfl
theorem words_of_head {W : World} {rest : List (String × DataW Unit)} (h : laidMet Tryz.prog (("corollary/parse.words", wordData wordsL) :: rest) W) : WordsAt W := by
  obtain ⟨ps, ⟨g', t', cs, fuel, p, q, hg', ht', hvar, hd, _, _⟩, _⟩ := h
  obtain rfl := Option.some.inj (gWords.symm.trans hg')
  obtain rfl := Option.some.inj (gWordsType.symm.trans ht')
  intro j x hx
  obtain ⟨h0, h1, h2⟩ := words_cells hd j x hx
  rw [World.var?_cell gWords hvar, World.var?_cell gWords hvar, World.var?_cell gWords hvar, ← Array.getElem?_toList, ← Array.getElem?_toList, ← Array.getElem?_toList]
  exact ⟨h0, h1, h2⟩
/-- what the rows' laid variables come to. -/
theorem rdys {W : World} (h : laidMetH Tryz.prog Rows.parseFormedRow.laid W) : Rdy W := by
  have h2 := laidMet.tail (laidMet.tail h)
  have h3 := laidMet.tail h2
  have h5 := laidMet.tail (laidMet.tail h3)
  have h6 := laidMet.tail h5
  exact ⟨lays h, words_of_head (rest := _) (laidMet.tail h6)⟩
end Go.Proofs.YtolnikpihedmbaaGreatDoor
