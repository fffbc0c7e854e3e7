/- The terms of an expression behind others, by the program and by the document. Conditions: lists of at most 100,000 terms. -/
import Derived.Test.YtikohamfnnlhcaaGreatDoorPcTermH
import Derived.Maps.AppendAt
import Derived.Laws.AppendOwnNone
import Derived.OwnWalk
set_option linter.unusedVariables false
set_option linter.unusedSimpArgs false
namespace Go.Proofs.YtikohamfnnlhcaaGreatDoor
open Go.RowKit Go.Deep Go.Shelf

/-- terms as cells. -/
def flatM : List TTm → List Value
  | [] => []
  | t :: r => .string t.v :: .int .i64 t.k :: .int .i64 t.n :: .string t.s :: flatM r
theorem flatM_len (l : List TTm) : (flatM l).length = l.length * 4 := by
  induction l with
  | nil => rfl
  | cons x r ih => simp only [flatM, List.length_cons, ih]; omega
theorem flatM_append (l m : List TTm) : flatM (l ++ m) = flatM l ++ flatM m := by
  induction l with
  | nil => rfl
  | cons x r ih => simp [flatM, ih]
theorem flatM_at : ∀ (l : List TTm) (i : Nat) (x : TTm), l[i]? = some x → (flatM l)[i * 4]? = some (.string x.v) ∧ (flatM l)[i * 4 + 1]? = some (.int .i64 x.k) ∧ (flatM l)[i * 4 + 2]? = some (.int .i64 x.n) ∧ (flatM l)[i * 4 + 3]? = some (.string x.s)
  | t :: r, 0, x, h => by
    simp only [List.getElem?_cons_zero, Option.some.injEq] at h
    subst h
    exact ⟨rfl, rfl, rfl, rfl⟩
  | t :: r, i + 1, x, h => by
    simp only [List.getElem?_cons_succ] at h
    have ih := flatM_at r i x h
    have e : ∀ k, (flatM (t :: r))[(i + 1) * 4 + k]? = (flatM r)[i * 4 + k]? := fun k => by
      rw [show (i + 1) * 4 + k = (i * 4 + k) + 1 + 1 + 1 + 1 by omega]
      simp only [flatM, List.getElem?_cons_succ]
    exact ⟨(e 0).trans ih.1, (e 1).trans ih.2.1, (e 2).trans ih.2.2.1, (e 3).trans ih.2.2.2⟩
theorem own_valueM {w : World} {base n k : Nat} {e : TypeId} {v : Value} {xs : List Value} (h : w.ownsRow base e k v n xs) : ∃ A c, v = .slice A n c ∧ (A = none → c = 0) ∧ ∀ g, v.ownBlock = some g → base ≤ g := by
  rcases h.2 with ⟨h1, h2⟩ | ⟨g, cap, cur, h1, hg, _⟩
  · exact ⟨none, 0, by rw [h1, h2], (fun _ => rfl), fun g hg => by rw [h1] at hg; cases hg⟩
  · refine ⟨_, cap, h1, (fun h => by cases h), fun g' hg' => ?_⟩
    rw [h1] at hg'
    simp [Value.ownBlock] at hg'
    omega
theorem own_below {w w' : World} {base n k : Nat} {e : TypeId} {v : Value} {xs : List Value} (h : w.ownsRow base e k v n xs) (hb : Below w.heap.size w w') : w'.ownsRow base e k v n xs :=
  ⟨h.1, h.2.imp id fun ⟨g, cap, cur, h1, h2, h3, h4⟩ => ⟨g, cap, cur, h1, h2, (hb.block g (Array.getElem?_eq_some_iff.1 h3).1).trans h3, h4⟩⟩
/-- an own row of terms, read. -/
theorem Rg.own {w : World} {base : Nat} {e : TypeId} {A : Option Addr} {c : Nat} {l : List TTm} (h : w.ownsRow base e 4 (.slice A l.length c) l.length (flatM l)) (hok : ∀ t ∈ l, okTm t) (hl : l.length ≤ 100000) : Rg 4 TmC w A l := by
  refine ⟨by omega, fun h0 => ?_⟩
  rcases h.2 with ⟨h1, h2⟩ | ⟨g, cap, cur, h1, hg, hc, hcap, _, hcs, htake⟩
  · omega
  · injection h1 with h1 _ _
    subst h1
    refine ⟨g, 0, rfl, (Array.getElem?_eq_some_iff.1 hc).1, fun i y hy => ?_⟩
    have hcell : ∀ (j : Nat) u, (flatM l)[j]? = some u → w.cell? ⟨g, j, none⟩ = some u := fun j u hu => by
      rw [cell_of_row w g j cur e (0, 0) hc]
      rw [← htake, List.getElem?_take] at hu
      split at hu
      · simpa using hu
      · cases hu
    obtain ⟨f0, f1, f2, f3⟩ := flatM_at l i y hy
    rw [Nat.zero_add]
    exact ⟨hcell _ _ f0, hcell _ _ f1, hcell _ _ f2, hcell _ _ f3, hok y (List.mem_of_getElem? hy)⟩
theorem infoRtm : (Tryz.prog.info? 72).map (fun i => (i.zero, i.size, i.bytes)) = some (some (.agg #[.string noText, .int .i64 0, .int .i64 0, .string noText]), 4, 48) := by kernel_rfl
end Go.Proofs.YtikohamfnnlhcaaGreatDoor
