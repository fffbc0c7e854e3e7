/- A table of texts that is laid reads, cell for cell, as its texts; what the rows' laid variables come to. Conditions: none. -/
import Derived.Test.YtlfakhjcpdkaiaaDoorRows
import Derived.Test.YtlfakhjcpdkaiaaDoorLexE
import Derived.Lib.LaidTab
import Derived.Stop.LaidErr
import Derived.LaidMore
namespace Go.Proofs.YtlfakhjcpdkaiaaDoor
open Go.Lib Go.RowKit

def strData {H : Type} (ls : List (List UInt8)) : DataW H := .agg (ls.map fun l => .lit (.string l))
theorem cells_of_strs {H : Type} {enc : TypeId × Value → H} {P : Program} {w : World} {base : Nat} {sp : Nat → Bool} {held : Bool} {fuel : Nat} {t e : TypeId} {n : Nat} {cs : List Value} {ls : List (List UInt8)} {p : List MemPlace}
    (ht : P.underlying t = some (.array n e)) (he : P.underlying e = some .string) (hce : P.cellsOf e = 1) (hct : P.cellsOf t = n)
    (h : DataW.trod enc P w base sp held fuel t cs = some (strData ls, p)) : cs = ls.map fun l => Value.string (bts l) := by
  cases fuel with
  | zero => simp [DataW.trod] at h
  | succ fuel =>
    simp only [DataW.trod, ht, hce, hct, Nat.mul_one] at h
    split at h
    · rename_i hl
      obtain ⟨xs, hm, hx⟩ := Option.map_eq_some_iff.1 h
      have hxs : xs.map (·.1) = ls.map fun l => (DataW.lit (.string l) : DataW H) := by
        have := congrArg Prod.fst hx
        simpa [strData] using this
      have hxl : xs.length = n := by simpa using mapM_length hm
      have hzl : ls.length = n := by
        have := congrArg List.length hxs
        simp at this
        omega
      apply List.ext_getElem?
      intro i
      by_cases hi : i < n
      · obtain ⟨b, hb, hf⟩ := mapM_at hm i i (by simp [hi])
        obtain ⟨s, hc, rfl, _⟩ := DataW.trod_string he hf
        have h1 : cs[i]? = some (.string s) := by
          have := congrArg (·[0]?) hc
          simpa [List.getElem?_take, List.getElem?_drop] using this
        have h2 : (xs.map (·.1))[i]? = some (DataW.lit (.string s.data.toList) : DataW H) := by simp [hb]
        rw [hxs] at h2
        simp only [List.getElem?_map, Option.map_eq_some_iff, DataW.lit.injEq, Lit.string.injEq] at h2
        obtain ⟨l, hl', e1⟩ := h2
        have e2 : bts l = s := by rw [e1]
        simp [h1, hl', e2]
      · rw [List.getElem?_eq_none (by omega), List.getElem?_eq_none (by simp; omega)]
    · cases h
theorem strs_of_head {P : Program} {W : World} {name : String} {ls : List (List UInt8)} {rest : List (String × DataW Unit)} {g : Nat} {t e : TypeId} {n : Nat}
    (hg : P.globalNamed name = some g) (hty : (P.globals[g]?).map (·.type) = some t) (ht : P.underlying t = some (.array n e)) (he : P.underlying e = some .string) (hce : P.cellsOf e = 1) (hct : P.cellsOf t = n)
    (h : laidMet P ((name, strData ls) :: rest) W) : ∀ (j : Nat) x, ls[j]? = some x → W.cell? ⟨g, j, none⟩ = some (.string (bts x)) := by
  obtain ⟨ps, ⟨g', t', cs, fuel, p, q, hg', ht', hvar, hd, _, _⟩, _⟩ := h
  obtain rfl := Option.some.inj (hg.symm.trans hg')
  obtain rfl := Option.some.inj (hty.symm.trans ht')
  intro j x hx
  have hc := World.var?_cell hg hvar j
  rw [hc]
  have := cells_of_strs ht he hce hct hd
  rw [← Array.getElem?_toList, this]
  simp [hx]

theorem gTabType : (Tryd.prog.globals[5]?).map (·.type) = some 163 := by kernel_rfl
theorem cellsT : Tryd.prog.cellsOf 163 = 20 := by kernel_rfl
theorem cellsE : Tryd.prog.cellsOf 144 = 1 := by kernel_rfl
theorem star : "*" ++ "errors.errorString" = "*errors.errorString" := by decide
theorem rowErr (u : TypeId) (h : Tryd.prog.typeName? 3 u = some "*errors.errorString") : u = 153 :=
  typeName_ptr_named (nm := "errors.errorString") (by rw [star]; kernel_rfl) (by kernel_rfl) (by decide) u (by rw [star]; exact h)
theorem gSynType : (Tryd.prog.globals[3]?).map (·.type) = some 128 := by kernel_rfl
theorem gRngType : (Tryd.prog.globals[4]?).map (·.type) = some 128 := by kernel_rfl
theorem cellsErr : Tryd.prog.cellsOf 155 = 1 := by kernel_rfl
theorem cellsStr : Tryd.prog.cellsOf 9 = 1 := by kernel_rfl
theorem gKeys : Tryd.prog.globalNamed "corollary/lex.keys" = some 1 := by kernel_rfl
theorem gSigns : Tryd.prog.globalNamed "corollary/lex.signs" = some 0 := by kernel_rfl
theorem gKeysType : (Tryd.prog.globals[1]?).map (·.type) = some 126 := by kernel_rfl
theorem gSignsType : (Tryd.prog.globals[0]?).map (·.type) = some 122 := by kernel_rfl
theorem cellsK : Tryd.prog.cellsOf 126 = 8 := by kernel_rfl
theorem cellsS : Tryd.prog.cellsOf 122 = 14 := by kernel_rfl
/-- the rows' laid variables, as the walks take them. -/
theorem lays {W : World} (h : laidMetH Tryd.prog Rows.termTermsRow.laid W) : Lays W := by
  have h2 := laidMet.tail (laidMet.tail h)
  have h3 := laidMet.tail h2
  have h5 := laidMet.tail (laidMet.tail h3)
  have h6 := laidMet.tail h5
  obtain ⟨a0, _, v0, _⟩ := laid_sentinel h3 gRng gRngType Tryd.underlying128 rowErr Tryd.underlying153 Tryd.underlying155 rfl rfl Tryd.underlying9 cellsErr cellsStr
  obtain ⟨a1, _, v1, _⟩ := laid_sentinel (laidMet.tail h3) gSyn gSynType Tryd.underlying128 rowErr Tryd.underlying153 Tryd.underlying155 rfl rfl Tryd.underlying9 cellsErr cellsStr
  exact ⟨strs_of_head (ls := keysL) (rest := _) gKeys gKeysType Tryd.underlying126 Tryd.underlying9 cellsStr cellsK h5, strs_of_head (ls := signsL) (rest := _) gSigns gSignsType Tryd.underlying122 Tryd.underlying9 cellsStr cellsS h6,
    Lib.tabIs_of_head (rest := _) gPow gTabType Tryd.underlying163 Tryd.underlying144 cellsE cellsT h2, ⟨_, _, v1⟩, ⟨_, _, v0⟩⟩
end Go.Proofs.YtlfakhjcpdkaiaaDoor
