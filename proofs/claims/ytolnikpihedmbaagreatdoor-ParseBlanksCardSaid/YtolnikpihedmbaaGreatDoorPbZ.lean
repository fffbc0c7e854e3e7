/- The example: what is read of it. Conditions: none. The example is so; ParseFormed. Conditions: what is laid; texts of at most 2^47 bytes. -/
import Derived.Test.YtolnikpihedmbaaGreatDoorPbE
import Derived.Test.YtolnikpihedmbaaGreatDoorPbParYr
import Derived.Test.YtolnikpihedmbaaGreatDoorPbTermL
set_option linter.unusedVariables false
set_option linter.unusedSimpArgs false
namespace Go.Proofs.YtolnikpihedmbaaGreatDoor
open Go.RowKit

def exT : List UInt8 := [112, 40, 88, 44, 32, 99, 111, 117, 110, 116, 40, 89, 41, 41, 32, 58, 45, 32, 113, 40, 88, 44, 32, 89, 41, 44, 32, 110, 111, 116, 32, 114, 40, 89, 41, 44, 32, 88, 32, 60, 32, 89, 32, 42, 32, 50, 46]
def okEx (q : TRu × PS) : Bool := decide (q.1.agg = 1) && (decide (q.1.col = 1) && (q.1.body.length == 3 && ((match q.1.body with | [_, b, c] => decide (b.kind = 2) && decide (c.op = 3) | _ => false) && (q.2.rest.isEmpty && q.2.flt == 0))))
theorem ex_lex : (lexA kindW 0 exT).2.isNone = true := by kernel_rfl
theorem ex_ok : okEx (ruleM 47 ⟨(lexA kindW 0 exT).1, 0, 0⟩) = true := by kernel_rfl
end Go.Proofs.YtolnikpihedmbaaGreatDoor

set_option linter.unusedVariables false
set_option linter.unusedSimpArgs false
namespace Go.Proofs.YtolnikpihedmbaaGreatDoor
open Go.RowKit Go.Deep Go.Shelf

theorem ex_ans : ansOf (bts exT) = ((lexA kindW 0 exT).1, 0, 0) := by
  unfold ansOf
  rw [if_neg (by rw [bts_size]; decide), bts_list]
  have h := ex_lex
  cases ho : (lexA kindW 0 exT).2 with
  | none => rfl
  | some p => rw [ho] at h; cases h
set_option maxRecDepth 100000 in
set_option maxHeartbeats 2000000 in
theorem alive6 (w : World) (h : Rdy w) : Calls Tryz.prog 5 #[] w fun r w' => r = .returned (.bool true) ∧ Below w.heap.size w w' := by
  have hz : (bts exT).size = 47 := by rw [bts_size]; rfl
  have hok := ex_ok
  have HR := Rule_any (bts exT) w (by rw [hz]; unfold maxLen; decide) h (by rw [ex_ans])
  rw [ex_ans, hz] at HR
  simp only at HR
  generalize ruleM 47 ⟨(lexA kindW 0 exT).1, 0, 0⟩ = q at *
  obtain ⟨x, sp⟩ := q
  unfold okEx at hok
  simp only [Bool.and_eq_true, decide_eq_true_eq, beq_iff_eq, List.isEmpty_iff] at hok
  obtain ⟨h1, h2, h3, h4, h5, h6⟩ := hok
  have HR2 := Lib.hid (HR h5 h6)
  have hb : ∃ a b c, x.body = [a, b, c] ∧ b.kind = 2 ∧ c.op = 3 := by
    rcases hx : x.body with _ | ⟨a, _ | ⟨b, _ | ⟨c, _ | ⟨e, l⟩⟩⟩⟩
    · rw [hx] at h3; cases h3
    · rw [hx] at h3; cases h3
    · rw [hx] at h3; cases h3
    · rw [hx] at h4
      simp only [Bool.and_eq_true, decide_eq_true_eq] at h4
      exact ⟨a, b, c, rfl, h4.1, h4.2⟩
    · rw [hx] at h3
      simp at h3
  obtain ⟨la, lb, lc, hbd, hk, ho⟩ := hb
  have HBd := Lib.hid hbd
  have hex : bts exT = ⟨#[112, 40, 88, 44, 32, 99, 111, 117, 110, 116, 40, 89, 41, 41, 32, 58, 45, 32, 113, 40, 88, 44, 32, 89, 41, 44, 32, 110, 111, 116, 32, 114, 40, 89, 41, 44, 32, 88, 32, 60, 32, 89, 32, 42, 32, 50, 46]⟩ := rfl
  rw [hex] at HR2
  have k1 : ∀ w, (binOp .eql 28 .nilIface .nilIface).run Tryz.prog w = .ok (.bool true) w := fun w => by kernel_rfl
  clear HR h4 h5 h6 h hz hbd hex
  go_enter Tryz.func5, Tryz.ntmps5
  go_wp2_with fail
  refine HR2.out.mono ?_
  rintro r w2 ⟨A, c, B, d, rfl, hv, b2⟩
  simp only at hv
  have hV := hv.here
  obtain ⟨b, o, hB, hbw, hc1⟩ := hV.row.at_ (k := 1) (by rw [HBd.out]; simp)
  obtain ⟨b', o', hB', _, hc2⟩ := hV.row.at_ (k := 2) (by rw [HBd.out]; simp)
  rw [hB] at hB'
  injection hB' with hB'
  injection hB' with e1 e2
  subst e1 e2 hB
  have e1 : x.body[1]'(by rw [HBd.out]; simp) = lb := by simp [HBd.out]
  have e2 : x.body[2]'(by rw [HBd.out]; simp) = lc := by simp [HBd.out]
  rw [e1] at hc1
  rw [e2] at hc2
  have l0 := hc1.1
  have l3 := hc2.2.2.1
  rw [hk] at l0
  rw [ho] at l3
  simp only [Nat.one_mul, Nat.reduceMul] at l0 l3
  have hl3 : (x.body.length : Int) = 3 := by omega
  have he0 : errV 0 = .nilIface := err0
  rw [he0]
  unfold ruV
  simp only [h3]
  have B2 := Lib.hid b2
  clear hv hV hc1 hc2 e1 e2 b2 HR2 hk ho he0
  go_wp2_with (first
    | (refine wpList_store_new (o := ⟨none, .store 36 _ _, _, _, _, _⟩) rfl 36 _ _ rfl #[.string x.head.rel, .slice A x.head.args.length c, .int .i64 x.agg, .int .i64 x.col, .slice (some ⟨b, o, none⟩) 3 d, .int .i64 x.pos] rfl rfl 36 _ infoTru6 rfl (by simp [Value.oneCell']) ?_)
    | fail)
  go_ret
  exact ⟨rfl, B2.out.alloc B2.out.size _⟩
/-- where a text has no token is within it. -/
theorem lexA_where (s : List UInt8) (p : Nat) (h : (lexA kindW 0 s).2 = some p) : p ≤ s.length := by
  have key : ∀ (n o : Nat) (l : List UInt8), l.length = n → ∀ p, (lexA kindW o l).2 = some p → p ≤ o + l.length := by
    refine lexA_ind (kw := kindW) (P := fun o l R => ∀ p, R.2 = some p → p ≤ o + l.length) (fun _ _ _ p h => by cases h) (fun o l hn _ p h => ?_) (fun o l q t R hn ht hne hp _ hR p h => ?_)
    · injection h with h
      have := skip_le l false
      omega
    · have h1 := hR p h
      have h2 := hp.length_le
      have h3 := skip_le l false
      simp only [List.length_drop] at h1 h2
      omega
  have := key _ 0 s rfl p h
  omega
/-- of a text: what is read is formed, and its rules stand in order. -/
theorem resP_ok (s : ByteArray) : ((resP s).2.2 ≠ 0 → (resP s).1 = ⟨[], []⟩ ∧ 0 ≤ (resP s).2.1 ∧ (resP s).2.1 ≤ (s.size : Int)) ∧
    ((resP s).2.2 = 0 → (resP s).2.1 = 0 ∧ formedB (resP s).1 = true ∧ (resP s).1.rules.Pairwise (fun a b => a.pos < b.pos) ∧ ∀ r ∈ (resP s).1.rules, 0 ≤ r.pos ∧ r.pos < s.size) := by
  have hsz : s.data.toList.length = s.size := by simp
  unfold resP
  by_cases h : (ansOf s).2.1 ≠ 0
  · rw [if_pos h]
    refine ⟨fun _ => ⟨rfl, ?_⟩, fun h0 => absurd h0 h⟩
    unfold ansOf at h ⊢
    by_cases hl : 4000 < s.size
    · rw [if_pos hl]
      exact ⟨by show (0 : Int) ≤ 4000; decide, by show (4000 : Int) ≤ (s.size : Int); omega⟩
    · rw [if_neg hl] at h ⊢
      cases ho : (lexA kindW 0 s.data.toList).2 with
      | none => rw [ho] at h; exact absurd rfl h
      | some p =>
        have hp := lexA_where s.data.toList p ho
        exact ⟨by show (0 : Int) ≤ (p : Int); omega, by show (p : Int) ≤ (s.size : Int); omega⟩
  · rw [if_neg h]
    have h0 : (ansOf s).2.1 = 0 := by
      by_cases h9 : (ansOf s).2.1 = 0
      · exact h9
      · exact absurd h9 h
    obtain ⟨ht, hs4, hL, hn⟩ := ans_toks h0
    have hpos : ∀ y ∈ (ansOf s).1, y.2.2 < s.size := fun y hy => by
      rw [hL] at hy
      have h1 := lexA_at (kw := kindW) s.data.toList 0 (Nat.zero_le _) y (by rw [List.drop_zero]; exact hy)
      have h2 := (lexA_good (kw := kindW) 0 s.data.toList y hy).ne
      have h3 := List.length_pos_iff.2 h2
      omega
    have hst := (progM_st (e := s.size) ⟨(ansOf s).1, 0, 0⟩).pos (Nat.zero_le _) (fun y hy => by have := hpos y hy; omega)
    unfold resQ
    by_cases hf : (progM s.size ⟨(ansOf s).1, 0, 0⟩).2.flt ≠ 0
    · rw [if_pos hf]
      exact ⟨fun _ => ⟨rfl, by show (0 : Int) ≤ (((progM s.size ⟨(ansOf s).1, 0, 0⟩).2.pos : Nat) : Int); omega, by show (((progM s.size ⟨(ansOf s).1, 0, 0⟩).2.pos : Nat) : Int) ≤ (s.size : Int); omega⟩, fun h9 => absurd h9 (by show ¬ ((((progM s.size ⟨(ansOf s).1, 0, 0⟩).2.flt : Nat) : Int) = 0); omega)⟩
    · rw [if_neg hf]
      have hf0 : (progM s.size ⟨(ansOf s).1, 0, 0⟩).2.flt = 0 := by omega
      obtain ⟨g1, g2, g3⟩ := progM_right (e := s.size) ht.ok (by rw [hL]; exact (lexA_asc 0 _).2) hpos hf0
      exact ⟨fun h9 => absurd rfl h9, fun _ => ⟨rfl, g1, g2, g3⟩⟩
end Go.Proofs.YtolnikpihedmbaaGreatDoor
