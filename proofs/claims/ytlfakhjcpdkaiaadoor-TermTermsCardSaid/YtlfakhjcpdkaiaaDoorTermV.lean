/- A literal of a row as mere values. Conditions: none. -/
import Derived.Test.YtlfakhjcpdkaiaaDoorTermW
set_option linter.unusedVariables false
set_option linter.unusedSimpArgs false
namespace Go.Proofs.YtlfakhjcpdkaiaaDoor
open Go.RowKit Go.Deep Go.Shelf

/-- the cells of a literal as mere values, and what is known of the whole. -/
def LtX (w : World) (A : Option Addr) (j : Nat) (F : Value → Prop) : Prop :=
  ∃ (b o : Nat) (k0 k3 k4 k6 k7 k10 k12 k13 k16 : Int) (s1 s5 s8 s11 s14 : ByteArray) (A2 A9 A15 : Option Addr) (n2 m2 n9 m9 n15 m15 : Nat), A = some ⟨b, o, none⟩ ∧ b < w.heap.size ∧ (w.cell? ⟨b, o + j * 17, none⟩ = some (.int .i64 k0) ∧ w.cell? ⟨b, o + j * 17 + 1, none⟩ = some (.string s1) ∧ w.cell? ⟨b, o + j * 17 + 2, none⟩ = some (.slice A2 n2 m2) ∧ w.cell? ⟨b, o + j * 17 + 3, none⟩ = some (.int .i64 k3) ∧ w.cell? ⟨b, o + j * 17 + 4, none⟩ = some (.int .i64 k4) ∧ w.cell? ⟨b, o + j * 17 + 5, none⟩ = some (.string s5) ∧ w.cell? ⟨b, o + j * 17 + 6, none⟩ = some (.int .i64 k6) ∧ w.cell? ⟨b, o + j * 17 + 7, none⟩ = some (.int .i64 k7) ∧ w.cell? ⟨b, o + j * 17 + 8, none⟩ = some (.string s8) ∧ w.cell? ⟨b, o + j * 17 + 9, none⟩ = some (.slice A9 n9 m9) ∧ w.cell? ⟨b, o + j * 17 + 10, none⟩ = some (.int .i64 k10) ∧ w.cell? ⟨b, o + j * 17 + 11, none⟩ = some (.string s11) ∧ w.cell? ⟨b, o + j * 17 + 12, none⟩ = some (.int .i64 k12) ∧ w.cell? ⟨b, o + j * 17 + 13, none⟩ = some (.int .i64 k13) ∧ w.cell? ⟨b, o + j * 17 + 14, none⟩ = some (.string s14) ∧ w.cell? ⟨b, o + j * 17 + 15, none⟩ = some (.slice A15 n15 m15) ∧ w.cell? ⟨b, o + j * 17 + 16, none⟩ = some (.int .i64 k16)) ∧ F (.agg #[.int .i64 k0, .string s1, .slice A2 n2 m2, .int .i64 k3, .int .i64 k4, .string s5, .int .i64 k6, .int .i64 k7, .string s8, .slice A9 n9 m9, .int .i64 k10, .string s11, .int .i64 k12, .int .i64 k13, .string s14, .slice A15 n15 m15, .int .i64 k16])
theorem lt_x {w : World} {A : Option Addr} {l : List TLt} (hV : Rg 17 LtC w A l) {j : Nat} (h : j < l.length) {F : Value → Prop} (hF : ∀ AA ac L d R f, LtV w l[j] AA L R → F (ltV l[j] AA ac L d R f)) : LtX w A j F := by
  obtain ⟨b, o, hA, hbw, hc⟩ := hV.at_ h
  obtain ⟨AA, ac, L, lc, R, rc, ⟨c0, c1, c2, c3, ⟨c4, c5, c6, c7, c8, c9⟩, ⟨d0, d1, d2, d3, d4, d5⟩, c16⟩, hy⟩ := hc.open_
  exact ⟨b, o, _, _, _, _, _, _, _, _, _, _, _, _, _, _, _, _, _, _, _, _, _, _, _, hA, hbw, ⟨c0, c1, c2, c3, c4, c5, c6, c7, c8, c9, d0, d1, d2, d3, d4, d5, c16⟩, hF AA ac L lc R rc hy⟩
end Go.Proofs.YtlfakhjcpdkaiaaDoor
