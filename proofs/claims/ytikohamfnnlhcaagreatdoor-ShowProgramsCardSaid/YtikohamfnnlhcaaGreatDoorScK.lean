/- The law's copy of a program in the document's form. Conditions: at most 30,000 of everything. How many things a rule and a body have. Conditions: none. -/
import Derived.Test.YtikohamfnnlhcaaGreatDoorPcTermCu
import Derived.Test.YtikohamfnnlhcaaGreatDoorPcTermX
set_option linter.unusedVariables false
set_option linter.unusedSimpArgs false
namespace Go.Proofs.YtikohamfnnlhcaaGreatDoor
open Go.RowKit Go.Deep Go.Shelf

theorem infoRpg : (Tryz.prog.info? 31).map (·.size) = some 2 := by kernel_rfl
theorem infoRde : (Tryz.prog.info? 101).map (fun i => (i.zero, i.size, i.bytes)) = some (some (.agg #[.string noText, .slice none 0 0, .int .i64 0]), 3, 48) := by kernel_rfl
theorem infoRr : (Tryz.prog.info? 70).map (fun i => (i.zero, i.size, i.bytes)) = some (some (.agg #[.string noText, .slice none 0 0, .int .i64 0, .int .i64 0, .slice none 0 0, .int .i64 0]), 6, 88) := by kernel_rfl
/-- what is small enough to be copied. -/
def SmallP (p : TPg) : Prop := p.decls.length ≤ 30000 ∧ p.rules.length ≤ 30000 ∧ ∀ r ∈ p.rules, r.head.args.length ≤ 30000 ∧ r.body.length ≤ 30000 ∧ ∀ x ∈ r.body, x.atom.args.length ≤ 30000 ∧ cntE x.left ≤ 30000 ∧ cntE x.right ≤ 30000
end Go.Proofs.YtikohamfnnlhcaaGreatDoor

set_option linter.unusedVariables false
namespace Go.Proofs.YtikohamfnnlhcaaGreatDoor
theorem cntB_len : ∀ (l : List TLt), l.length ≤ cntB l
  | [] => Nat.zero_le _
  | x :: xs => by
    have h := cntB_len xs
    have e : cntB (x :: xs) = cntLt x + cntB xs := rfl
    have e2 : cntLt x = x.atom.args.length + cntE x.left + cntE x.right := rfl
    have := cntE_pos x.left
    rw [e, List.length_cons]
    omega
theorem smallP_of {p : TPg} (h : 0 ≤ leftPg p 1500) : SmallP p := by
  obtain ⟨h1, h2, _, h4⟩ := leftPg_cnt h
  refine ⟨by omega, by omega, fun r hr => ?_⟩
  have h5 := h4 r hr
  have e : cntRu r = r.head.args.length + cntB r.body := rfl
  have h6 := cntB_len r.body
  refine ⟨by omega, by omega, fun x hx => ?_⟩
  have h7 := cntB_mem hx
  have e2 : cntLt x = x.atom.args.length + cntE x.left + cntE x.right := rfl
  exact ⟨by omega, by omega, by omega⟩
end Go.Proofs.YtikohamfnnlhcaaGreatDoor
