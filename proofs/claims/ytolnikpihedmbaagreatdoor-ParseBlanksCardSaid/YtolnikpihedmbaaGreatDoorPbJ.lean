/- Wide structs: all cells read, or laid into a new box, in one step of the walk. Conditions: none. The reader: words of a group, numbers, terms. Conditions: as ParE's. The reader's term. Conditions: as ParE's. -/
import Derived.Test.YtolnikpihedmbaaGreatDoorPbG
import Derived.Test.YtolnikpihedmbaaGreatDoorPbI
set_option linter.unusedVariables false
set_option linter.unusedSimpArgs false
namespace Go.Proofs.YtolnikpihedmbaaGreatDoor
open Go.RowKit Go.Deep Go.Shelf

section
variable {P : Program}
theorem run_loadVar_at (w : World) (b p : Nat) (ty : TypeId) (cs : List Value) (d : TypeDesc) (hc : ∀ (j : Nat) v, cs[j]? = some v → w.cell? ⟨b, p + j, none⟩ = some v)
    (hu : P.underlying ty = some d) (hd : (match d with | .struct _ | .array _ _ => true | _ => false) = true) (hi : (P.info? ty).map (·.size) = some cs.length) :
    (loadVar ty ⟨b, p, none⟩).run P w = .ok (.agg cs.toArray) w := by
  have hl : (loadCells ⟨b, p, none⟩ cs.length).run P w = .ok cs.toArray w :=
    run_loadCells_list (P := P) w ⟨b, p, none⟩ cs (fun j v hv => by
      have hadd : (⟨b, p, none⟩ : Addr).add j = ⟨b, p + j, none⟩ := by unfold Addr.add; split <;> simp_all
      rw [hadd]
      exact hc j v hv)
  cases hq : P.info? ty with
  | none => simp [hq] at hi
  | some i =>
    have hs : i.size = cs.length := by simpa [hq] using hi
    have hagg : (isAgg ty).run P w = .ok true w := by
      unfold isAgg
      rw [Sem.run_bind, run_underlying hu w]
      cases d <;> simp_all
    simp [loadVar, Sem.run_bind, hagg, sizeOf, typeInfo, hq, hs, hl]
theorem wpList_load_at {ops : Array Oper} {rest : List Oper} {o : Oper} {a : Act} {w : World} {Q : Exit → Act → World → Prop} (hgd : o.guard = none) (ty : TypeId) (x : Operand) (ho : o.op = .load ty x)
    (b p : Nat) (hx : a.eval x = .pointer (some ⟨b, p, none⟩)) (cs : List Value) (hc : ∀ (j : Nat) v, cs[j]? = some v → w.cell? ⟨b, p + j, none⟩ = some v) (d : TypeDesc)
    (hu : P.underlying ty = some d) (hd : (match d with | .struct _ | .array _ _ => true | _ => false) = true) (hi : (P.info? ty).map (·.size) = some cs.length)
    (h : wpList P ops Q rest (a.put o.dst (.agg cs.toArray)) w) : wpList P ops Q (o :: rest) a w :=
  wpList_plain hgd fun _ hK => by
    unfold Oper.wp execOp
    simp only [ho, hx, Instr.loadAt, Instr.sureAddr, Sem.run_bind, Sem.run_pure, Result.andThen_ok, run_loadVar_at w b p ty cs d hc hu hd hi]
    exact hK _ _ h
theorem setRow_new (w : World) (old cells : Array Value) (t : TypeId) : (w.alloc (.cells old t)).setRow w.heap.size cells = w.alloc (.cells cells t) := by
  unfold World.setRow World.alloc
  congr 1
  apply Array.ext
  · simp
  · intro i h1 h2
    simp only [Array.getElem_modify, Array.getElem_push]
    by_cases h : w.heap.size = i
    · subst h
      simp
    · have h3 : i < w.heap.size := by simp at h2; omega
      simp [h, h3]
theorem wpList_store_new {ops : Array Oper} {rest : List Oper} {o : Oper} {a : Act} {w : World} {Q : Exit → Act → World → Prop} (hgd : o.guard = none) (ty : TypeId) (x y : Operand) (ho : o.op = .store ty x y)
    (cells : Array Value) (hx : a.eval x = .pointer (some ⟨w.heap.size, 0, none⟩)) (hy : a.eval y = .agg cells) (t : TypeId) (old : Array Value) (hi : (P.info? ty).map (·.size) = some cells.size)
    (hold : old.size = cells.size) (h1 : cells.all (·.oneCell') = true)
    (h : wpList P ops Q rest (a.put o.dst undef) (w.alloc (.cells cells t))) : wpList P ops Q (o :: rest) a (w.alloc (.cells old t)) :=
  wpList_store_row hgd ty x y ho w.heap.size cells hx hy t old (heap_alloc_new w _) hi hold h1 (by rw [setRow_new]; exact h)
end
theorem infoLit : (Tryz.prog.info? 62).map (·.size) = some 17 := by kernel_rfl
end Go.Proofs.YtolnikpihedmbaaGreatDoor

set_option linter.unusedVariables false
set_option linter.unusedSimpArgs false
namespace Go.Proofs.YtolnikpihedmbaaGreatDoor
open Go.RowKit Go.Deep Go.Shelf

theorem Kept.setRow {S : List Nat} {a w : World} (h : Kept S a w) {b : Nat} (hb : b ∈ S ∨ a.heap.size ≤ b) (cs : Array Value) : Kept S a (w.setRow b cs) :=
  ⟨h.os, h.tape, h.output, Nat.le_trans h.size (by simp), fun k hk hn => (setRow_other w b k cs (fun e => by
    subst e
    rcases hb with h1 | h1
    · exact hn h1
    · omega)).trans (h.block k hk hn)⟩
theorem Rdr.setRow {R e b : Nat} {w : World} {s : PS} (h : Rdr R e w s) (hb : R < b) (cs : Array Value) : Rdr R e (w.setRow b cs) s :=
  h.low ⟨rfl, rfl, rfl, by simp, fun k hk => setRow_other w b k cs (by omega)⟩
theorem Own.setRow {w : World} {b : Nat} {T : TypeId} {old : List Value} (h : Own w b T old) (cs : List Value) : Own (w.setRow b cs.toArray) b T cs := setRow_heap w b _ _ _ _ h

/-- the table's cells. -/
def wcL : List Value := wordsL.flatMap fun x => [.int .i64 (x.1 : Int), .string (bts x.2.1), .int .i64 (x.2.2 : Int)]
theorem wcL_at (w : World) (h : WordsAt w) : ∀ (j : Nat) v, wcL[j]? = some v → w.cell? ⟨0, 0 + j, none⟩ = some v := by
  intro j v hj
  have hlt : j < 45 := (List.getElem?_eq_some_iff.1 hj).1
  rw [Nat.zero_add]
  have key : ∀ k, k < 15 → (∀ v, wcL[k * 3]? = some v → w.cell? ⟨0, k * 3, none⟩ = some v) ∧ (∀ v, wcL[k * 3 + 1]? = some v → w.cell? ⟨0, k * 3 + 1, none⟩ = some v) ∧ (∀ v, wcL[k * 3 + 2]? = some v → w.cell? ⟨0, k * 3 + 2, none⟩ = some v) := by
    intro k hk
    obtain ⟨h0, h1, h2⟩ := h k _ (List.getElem?_eq_getElem (show k < wordsL.length from hk))
    refine ⟨fun v hv => ?_, fun v hv => ?_, fun v hv => ?_⟩
    · rw [h0, ← hv]
      rcases (show k = 0 ∨ k = 1 ∨ k = 2 ∨ k = 3 ∨ k = 4 ∨ k = 5 ∨ k = 6 ∨ k = 7 ∨ k = 8 ∨ k = 9 ∨ k = 10 ∨ k = 11 ∨ k = 12 ∨ k = 13 ∨ k = 14 by omega) with rfl | rfl | rfl | rfl | rfl | rfl | rfl | rfl | rfl | rfl | rfl | rfl | rfl | rfl | rfl <;> rfl
    · rw [h1, ← hv]
      rcases (show k = 0 ∨ k = 1 ∨ k = 2 ∨ k = 3 ∨ k = 4 ∨ k = 5 ∨ k = 6 ∨ k = 7 ∨ k = 8 ∨ k = 9 ∨ k = 10 ∨ k = 11 ∨ k = 12 ∨ k = 13 ∨ k = 14 by omega) with rfl | rfl | rfl | rfl | rfl | rfl | rfl | rfl | rfl | rfl | rfl | rfl | rfl | rfl | rfl <;> rfl
    · rw [h2, ← hv]
      rcases (show k = 0 ∨ k = 1 ∨ k = 2 ∨ k = 3 ∨ k = 4 ∨ k = 5 ∨ k = 6 ∨ k = 7 ∨ k = 8 ∨ k = 9 ∨ k = 10 ∨ k = 11 ∨ k = 12 ∨ k = 13 ∨ k = 14 by omega) with rfl | rfl | rfl | rfl | rfl | rfl | rfl | rfl | rfl | rfl | rfl | rfl | rfl | rfl | rfl <;> rfl
  obtain ⟨h0, h1, h2⟩ := key (j / 3) (by omega)
  rcases (show j = j / 3 * 3 ∨ j = j / 3 * 3 + 1 ∨ j = j / 3 * 3 + 2 by omega) with he | he | he
  · rw [he] at hj ⊢; exact h0 v hj
  · rw [he] at hj ⊢; exact h1 v hj
  · rw [he] at hj ⊢; exact h2 v hj
theorem infoWs : (Tryz.prog.info? 146).map (·.size) = some wcL.length := by kernel_rfl
theorem word_at {k : Nat} (hk : k < 15) (w : World) : (Instr.index 146 (.agg wcL.toArray) (.int .i64 (k : Int))).run Tryz.prog w = .ok (.agg #[.int .i64 (wordsL[k]'hk).1, .string (bts (wordsL[k]'hk).2.1), .int .i64 (wordsL[k]'hk).2.2]) w := by
  rcases (show k = 0 ∨ k = 1 ∨ k = 2 ∨ k = 3 ∨ k = 4 ∨ k = 5 ∨ k = 6 ∨ k = 7 ∨ k = 8 ∨ k = 9 ∨ k = 10 ∨ k = 11 ∨ k = 12 ∨ k = 13 ∨ k = 14 by omega) with rfl | rfl | rfl | rfl | rfl | rfl | rfl | rfl | rfl | rfl | rfl | rfl | rfl | rfl | rfl <;> kernel_rfl
theorem word_ne {x : Nat × List UInt8 × Nat} (h : x ∈ wordsL) : x.2.1 ≠ [] ∧ x.2.2 ≠ 0 := by
  simp only [wordsL, List.mem_cons, List.not_mem_nil, or_false] at h
  rcases h with rfl | rfl | rfl | rfl | rfl | rfl | rfl | rfl | rfl | rfl | rfl | rfl | rfl | rfl | rfl <;> decide
theorem one_found {x : Nat × List UInt8 × Nat} (h : x ∈ wordsL) : oneOf x.1 x.2.1 = x.2.2 := by
  simp only [wordsL, List.mem_cons, List.not_mem_nil, or_false] at h
  rcases h with rfl | rfl | rfl | rfl | rfl | rfl | rfl | rfl | rfl | rfl | rfl | rfl | rfl | rfl | rfl <;> rfl
theorem one_none {g : Nat} {t : List UInt8} (h : ∀ j (hj : j < wordsL.length), wordsL[j].1 = g → wordsL[j].2.1 ≠ t) : oneOf g t = 0 := by
  unfold oneOf
  have : wordsL.find? (fun w => decide (w.1 = g) && decide (w.2.1 = t)) = none := by
    rw [List.find?_eq_none]
    intro x hx hc
    obtain ⟨j, hj, rfl⟩ := List.getElem_of_mem hx
    simp only [Bool.and_eq_true, decide_eq_true_eq] at hc
    exact h j hj hc.1 hc.2
  rw [this]
set_option maxRecDepth 100000 in
set_option maxHeartbeats 1000000 in
theorem takeOne_any (R e g : Nat) (s : PS) (w : World) (h : Rdr R e w s) :
    Calls Tryz.prog 73 #[.pointer (some ⟨R, 0, none⟩), .int .i64 (g : Int)] w fun r w' => r = .returned (.int .i64 (got1 e s g : Int)) ∧ Rdr R e w' (take1 e s g) ∧ Kr R w w' := by
  have H := Lib.hid h
  have HW := Lib.hid (wcL_at w h.env.words)
  clear h
  go_enter Tryz.func73, Tryz.ntmps73
  go_wp2_with (refine wpList_load_at (o := ⟨some 7, _, _, _, _, _⟩) rfl 146 _ rfl 0 0 rfl wcL HW.out _ Tryz.underlying146 rfl infoWs ?_)
  obtain ⟨WV, hWV⟩ : ∃ V : Value, V = .agg wcL.toArray := ⟨_, rfl⟩
  have HWV := Lib.hid hWV
  rw [← hWV]
  clear hWV HW
  go_loopw [8] (fun i wr => ∃ (k : Nat), k ≤ 15 ∧ i = .int .i64 k ∧ Hid (Rdr R e wr s) ∧ Hid (Kr R w wr) ∧ Hid (∀ j (hj : j < wordsL.length), j < k → wordsL[j].1 = g → wordsL[j].2.1 ≠ (nx e s).2.1)) (fun i _ => 15 - (intOf i).toNat)
  case atStart => exact ⟨0, Nat.zero_le _, rfl, H, Kept.refl _ _, fun j _ h => absurd h (Nat.not_lt_zero _)⟩
  case round =>
    obtain ⟨k, hk, rfl, HR, HK, HN⟩ := hrel
    by_cases hlt : k < 15
    · have hx := word_at hlt
      rw [← HWV.out] at hx
      have hm : (wordsL[k]'hlt) ∈ wordsL := List.getElem_mem _
      have HM : Hid (∀ j (hj : j < wordsL.length), j < k + 1 → (wordsL[k]'hlt).1 ≠ g ∨ (wordsL[k]'hlt).2.1 ≠ (nx e s).2.1 → wordsL[j].1 = g → wordsL[j].2.1 ≠ (nx e s).2.1) := fun j hj hjk ho hg => by
        by_cases h : j = k
        · subst h
          rcases ho with ho | ho
          · exact absurd hg ho
          · exact ho
        · exact HN.out j hj (by omega) hg
      generalize (wordsL[k]'hlt) = x at hx hm HM
      obtain ⟨xg, xt, xn⟩ := x
      obtain ⟨hne, hn0⟩ := word_ne hm
      have HF := Lib.hid (one_found hm)
      simp only at hx hne hn0 HF HM
      have hqr := HR.out.lt
      have HR1 := Lib.hid (HR.out.below ((Below.refl wr.heap.size wr).alloc (o := .cells #[.int .i64 (xg : Int), .string (bts xt), .int .i64 (xn : Int)] 145) (Nat.le_refl _)))
      have HK1 := Lib.hid (HK.out.alloc (.cells #[.int .i64 (xg : Int), .string (bts xt), .int .i64 (xn : Int)] 145))
      clear hm
      have ho : Own (wr.alloc (.cells #[.int .i64 (xg : Int), .string (bts xt), .int .i64 (xn : Int)] 145)) wr.heap.size 145 [.int .i64 (xg : Int), .string (bts xt), .int .i64 (xn : Int)] := heap_alloc_new _ _
      by_cases hg : xg = g
      · subst hg
        have HT := Lib.hid (take_any R e xt hne s _ HR1.out)
        unfold takeT at HT
        have HO := Lib.hid ho
        cases hb : isT e s xt with
        | true =>
          rw [hb, if_pos rfl] at HT
          have ht : (nx e s).2.1 = xt := by unfold isT at hb; exact of_decide_eq_true hb
          have HQ : Hid (take1 e s xg = adv s ∧ got1 e s xg = xn) := by
            show _ ∧ _
            unfold take1 got1
            rw [ht, HF.out, if_neg hn0]
            exact ⟨rfl, rfl⟩
          clear hb HM HF ht HN HR HK hn0 ho
          go_wp2_with fail
          refine HT.out.mono ?_
          rintro r w2 ⟨rfl, h2, k2⟩
          have ho2 := k2.own HO.out (by simp; omega)
          have c2 := ho2.cell 2
          have q2 := ho2.lt
          have H2 := Lib.hid h2
          have K2 := Lib.hid (Kr.tr HK1.out k2)
          simp only [List.getElem?_cons_zero, List.getElem?_cons_succ] at c2
          clear h2 k2 HT ho2
          go_wp2
          go_ret
          rw [HQ.out.1, HQ.out.2]
          exact ⟨rfl, H2.out, K2.out⟩
        | false =>
          rw [hb, if_neg (by decide)] at HT
          have ht : xt ≠ (nx e s).2.1 := by unfold isT at hb; exact fun h => (of_decide_eq_false hb) h.symm
          have HN2 : Hid (∀ j (hj : j < wordsL.length), j < k + 1 → wordsL[j].1 = xg → wordsL[j].2.1 ≠ (nx e s).2.1) := fun j hj hjk hg => HM.out j hj hjk (.inr ht) hg
          clear hb HM HF ht HN HR HK hn0 ho
          go_wp2_with fail
          refine HT.out.mono ?_
          rintro r w2 ⟨rfl, h2, k2⟩
          have H2 := Lib.hid h2
          have K2 := Lib.hid (Kr.tr HK1.out k2)
          clear h2 k2 HT
          go_wp2_with fail
          go_roundw
          case rel => exact ⟨k + 1, by omega, by go_num, H2, K2, HN2⟩
          case measure => simp [intOf]; omega
      · have hgi : ¬ ((xg : Int) = (g : Int)) := by omega
        have HN2 : Hid (∀ j (hj : j < wordsL.length), j < k + 1 → wordsL[j].1 = g → wordsL[j].2.1 ≠ (nx e s).2.1) := fun j hj hjk h1 => HM.out j hj hjk (.inl hg) h1
        clear HM HF HN HR HK hn0 ho hg
        go_wp2_with fail
        go_roundw
        case rel => exact ⟨k + 1, by omega, by go_num, HR1, HK1, HN2⟩
        case measure => simp [intOf]; omega
    · have hk15 : k = 15 := by omega
      subst hk15
      have HQ : Hid (take1 e s g = s ∧ got1 e s g = 0) := by
        have h0 := one_none (g := g) (t := (nx e s).2.1) (fun j hj hg => HN.out j hj hj hg)
        show _ ∧ _
        unfold take1 got1
        rw [h0, if_pos rfl]
        exact ⟨rfl, rfl⟩
      clear HN
      go_wp2
      go_ret
      rw [HQ.out.1, HQ.out.2]
      exact ⟨rfl, HR.out, HK.out⟩
set_option maxRecDepth 100000 in
set_option maxHeartbeats 400000 in
theorem needOne_any (R e g : Nat) (s : PS) (w : World) (h : Rdr R e w s) :
    Calls Tryz.prog 54 #[.pointer (some ⟨R, 0, none⟩), .int .i64 (g : Int)] w fun r w' => r = .returned (.int .i64 (got1 e s g : Int)) ∧ Rdr R e w' (need1 e s g) ∧ Kr R w w' := by
  have HT := Lib.hid (takeOne_any R e g s w h)
  clear h
  unfold take1 at HT
  unfold need1
  change Hid (Calls _ _ _ _ fun r w' => r = .returned (.int .i64 (got1 e s g : Int)) ∧ Rdr R e w' (if got1 e s g = 0 then s else adv s) ∧ Kr R w w') at HT
  change Calls _ _ _ _ fun r w' => r = .returned (.int .i64 (got1 e s g : Int)) ∧ Rdr R e w' (if got1 e s g = 0 then rf e s 2 else adv s) ∧ Kr R w w'
  generalize got1 e s g = n at *
  by_cases hn : n = 0
  · subst hn
    rw [if_pos rfl] at HT
    rw [if_pos rfl]
    go_enter Tryz.func54, Tryz.ntmps54
    go_wp2_with fail
    refine HT.out.mono ?_
    rintro r w1 ⟨rfl, h1, k1⟩
    have H1 := Lib.hid h1
    have K1 := Lib.hid k1
    clear h1 k1 HT
    go_wp2_with fail
    refine (refuse_any R e 2 s w1 H1.out).mono ?_
    rintro r w2 ⟨rfl, h2, k2⟩
    have H2 := Lib.hid h2
    have K2 := Lib.hid (K1.out.tr k2)
    clear h2 k2
    go_wp2
    go_ret
    exact ⟨rfl, H2.out, K2.out⟩
  · rw [if_neg hn] at HT
    rw [if_neg hn]
    have hni : ¬ ((n : Int) = 0) := by omega
    clear hn
    generalize (n : Int) = ni at *
    go_enter Tryz.func54, Tryz.ntmps54
    go_wp2_with fail
    refine HT.out.mono ?_
    rintro r w1 ⟨rfl, h1, k1⟩
    have H1 := Lib.hid h1
    have K1 := Lib.hid k1
    clear h1 k1 HT
    go_wp2
    go_ret
    exact ⟨rfl, H1.out, K1.out⟩
set_option maxRecDepth 100000 in
set_option maxHeartbeats 400000 in
theorem beforeAtom_any (R e : Nat) (s : PS) (w : World) (h : Rdr R e w s) :
    Calls Tryz.prog 81 #[.pointer (some ⟨R, 0, none⟩)] w fun r w' => r = .returned (.bool (befM e s)) ∧ Below w.heap.size w w' := by
  have H := Lib.hid h
  have HN := Lib.hid (next_any R e s w h)
  clear h
  unfold befM
  by_cases h2 : (nx e s).1 = 2
  · rw [decide_eq_true h2, Bool.true_and]
    rcases hs : s.rest with _ | ⟨x, _ | ⟨y, l⟩⟩
    · unfold nx at h2
      rw [hs] at h2
      cases h2
    · generalize nx e s = z at *
      have hf := field_kind z
      rw [h2] at hf
      simp only
      go_enter Tryz.func81, Tryz.ntmps81
      go_wp2_with fail
      refine HN.out.mono ?_
      rintro r w1 ⟨rfl, b1⟩
      obtain ⟨A, c, h1, _, _⟩ := (H.out.below b1).own
      have d0 := h1.cell 0
      have hR := h1.lt
      simp only [rdL, hs, List.getElem?_cons_zero, List.getElem?_cons_succ, List.length_cons, List.length_nil] at d0
      have B1 := Lib.hid b1
      clear b1 HN H h1
      go_wp2
      go_ret
      exact ⟨rfl, B1.out⟩
    · generalize nx e s = z at *
      have hf := field_kind z
      rw [h2] at hf
      simp only
      have HD : Hid (decide (bts y.2.1 = bts cLp) = decide (y.2.1 = cLp)) := bts_dec _ _
      go_enter Tryz.func81, Tryz.ntmps81
      go_wp2_with fail
      refine HN.out.mono ?_
      rintro r w1 ⟨rfl, b1⟩
      obtain ⟨A, c, h1, _, h3⟩ := (H.out.below b1).own
      have d0 := h1.cell 0
      have hR := h1.lt
      rw [hs] at h3
      obtain ⟨b, o, rfl, hb, hc⟩ := h3 (by simp)
      obtain ⟨_, c1, _⟩ := hc 1 y rfl
      simp only [rdL, hs, List.getElem?_cons_zero, List.getElem?_cons_succ, List.length_cons] at d0
      have hl1 : ((l.length + 1 + 1 : Nat) : Int) = (l.length : Int) + 1 + 1 := by omega
      have hl2 : (1 : Int) < (l.length : Int) + 1 + 1 := by omega
      have B1 := Lib.hid b1
      clear b1 HN H h1 h3 hc
      go_wp2
      go_ret
      refine ⟨?_, B1.out⟩
      rw [← HD.out]
      simp [list_beq, bts_dec, cLp, bts]
  · rw [decide_eq_false h2, Bool.false_and]
    have h2i : ¬ (((nx e s).1 : Int) = 2) := by omega
    generalize nx e s = z at *
    have hf := field_kind z
    clear h2
    generalize (z.1 : Int) = q at *
    go_enter Tryz.func81, Tryz.ntmps81
    go_wp2_with fail
    refine HN.out.mono ?_
    rintro r w1 ⟨rfl, b1⟩
    have B1 := Lib.hid b1
    clear b1 HN H
    go_wp2
    go_ret
    exact ⟨rfl, B1.out⟩
theorem Atoi_nil (w : World) (hT : Tabs w) : Calls Tryz.prog 100 #[.string noText] w fun e w' => ∃ v, e = .returned (.tuple #[.int .i64 0, v]) ∧ Below w.heap.size w w' := by
  obtain ⟨_, ⟨t1, p1, v1⟩, _⟩ := hT
  exact (Any.strconv_Atoi_syntax_var Tryz.laysC172 noText (by decide) (by rfl) t1 p1 w v1).mono fun e w' ⟨N, he, _, _, hb⟩ => ⟨_, he, hb⟩
theorem ok_atoi {l : List UInt8} (h : tokOf kindW l = some (4, l)) : Lib.atoiAll l = .ok (numV l) := by
  have h1 := ok_kind h (by decide)
  unfold kindW at h1
  split at h1
  · cases h1
  · split at h1
    · cases h1
    · split at h1
      · cases h1
      · split at h1
        · rename_i hp
          obtain ⟨n, hn⟩ := Option.isSome_iff_exists.1 hp
          obtain ⟨h2, h3⟩ := pv_some hn
          have h4 := atoi_num h2
          have e : (itoaB n).data.toList = Lib.itoa n := rfl
          rw [e, h3] at h4
          unfold numV
          rw [h4]
        · cases h1
theorem Atoi_tok (l : List UInt8) (h : l = [] ∨ (tokOf kindW l = some (4, l) ∧ l.length ≤ 4000)) (w : World) (hT : Tabs w) :
    Calls Tryz.prog 100 #[.string (bts l)] w fun e w' => ∃ v, e = .returned (.tuple #[.int .i64 (numV l), v]) ∧ Below w.heap.size w w' := by
  rcases h with rfl | ⟨h, hl⟩
  · have e : numV [] = 0 := by rfl
    rw [e]
    exact Atoi_nil w hT
  · exact (Atoi_good (bts l) (numV l) (by rw [bts_size]; omega) (by rw [bts_list]; exact ok_atoi h) w).mono fun e w' ⟨h1, h2⟩ => ⟨_, h1, h2⟩
theorem needK_txt {e k : Nat} {s : PS} (hk : k ≠ 0) (h : Toks s.rest) : (needK e s k).1 = [] ∨ (tokOf kindW (needK e s k).1 = some (k, (needK e s k).1) ∧ (needK e s k).1.length ≤ 4000) := by
  unfold needK
  by_cases h1 : (nx e s).1 = k
  · rw [if_pos h1]
    have hm := nx_mem h1 hk
    have := h.ok _ hm
    rw [h1] at this
    exact .inr ⟨this, h.size _ hm⟩
  · rw [if_neg h1]
    exact .inl rfl
theorem numV_rng {l : List UInt8} (h : l = [] ∨ (tokOf kindW l = some (4, l) ∧ l.length ≤ 4000)) : -2147483647 ≤ numV l ∧ numV l ≤ 2147483647 := by
  rcases h with rfl | ⟨h, _⟩
  · have e : numV [] = 0 := by rfl
    rw [e]
    decide
  · exact inRng_iff.1 (ok_num h)
set_option maxRecDepth 100000 in
set_option maxHeartbeats 400000 in
theorem number_any (R e : Nat) (s : PS) (w : World) (h : Rdr R e w s) :
    Calls Tryz.prog 89 #[.pointer (some ⟨R, 0, none⟩)] w fun r w' => r = .returned (.int .i64 (numM e s).1) ∧ Rdr R e w' (numM e s).2 ∧ Kr R w w' := by
  have HT := Lib.hid (take_any R e cMi (by decide) s w h)
  have HTx := Lib.hid (needK_txt (e := e) (k := 4) (by decide) (h.tok.st (takeT_st (e := e) s cMi)))
  clear h
  unfold numM
  have HNK := Lib.hid (fun (w : World) (h : Rdr R e w (takeT e s cMi)) => needKind_any R e 4 (by decide) (takeT e s cMi) w h)
  simp only
  generalize takeT e s cMi = s1 at *
  generalize needK e s1 4 = q at *
  obtain ⟨t, s2⟩ := q
  simp only at HTx HNK ⊢
  obtain ⟨hn1, hn2⟩ := numV_rng HTx.out
  have HA := Lib.hid (fun w hT => Atoi_tok t HTx.out w hT)
  generalize numV t = n at *
  have hcm : bts cMi = ⟨#[45]⟩ := rfl
  rw [hcm] at HT
  cases hb : isT e s cMi with
  | true =>
    rw [hb] at HT
    rw [if_pos rfl]
    clear hb HTx
    go_enter Tryz.func89, Tryz.ntmps89
    go_wp2_with fail
    refine HT.out.mono ?_
    rintro r w1 ⟨rfl, h1, k1⟩
    have H1 := Lib.hid h1
    have K1 := Lib.hid k1
    clear h1 k1 HT
    go_wp2_with fail
    refine (HNK.out w1 H1.out).mono ?_
    rintro r w2 ⟨rfl, h2, k2⟩
    have H2 := Lib.hid h2
    have K2 := Lib.hid (Kr.tr K1.out k2)
    clear h2 k2 HNK
    go_wp2_with fail
    refine (HA.out w2 H2.out.env.lays.2.2).mono ?_
    rintro r w3 ⟨v, rfl, b3⟩
    have B3 := Lib.hid b3
    clear b3 HA
    go_wp2
    go_ret
    exact ⟨ret_i64 (by omega), H2.out.below B3.out, Kr.tr K2.out (Kr.of B3.out)⟩
  | false =>
    rw [hb] at HT
    rw [if_neg (by decide)]
    clear hb HTx
    go_enter Tryz.func89, Tryz.ntmps89
    go_wp2_with fail
    refine HT.out.mono ?_
    rintro r w1 ⟨rfl, h1, k1⟩
    have H1 := Lib.hid h1
    have K1 := Lib.hid k1
    clear h1 k1 HT
    go_wp2_with fail
    refine (HNK.out w1 H1.out).mono ?_
    rintro r w2 ⟨rfl, h2, k2⟩
    have H2 := Lib.hid h2
    have K2 := Lib.hid (Kr.tr K1.out k2)
    clear h2 k2 HNK
    go_wp2_with fail
    refine (HA.out w2 H2.out.env.lays.2.2).mono ?_
    rintro r w3 ⟨v, rfl, b3⟩
    have B3 := Lib.hid b3
    clear b3 HA
    go_wp2
    go_ret
    exact ⟨ret_i64 (by omega), H2.out.below B3.out, Kr.tr K2.out (Kr.of B3.out)⟩
end Go.Proofs.YtolnikpihedmbaaGreatDoor

set_option linter.unusedVariables false
set_option linter.unusedSimpArgs false
namespace Go.Proofs.YtolnikpihedmbaaGreatDoor
open Go.RowKit Go.Deep Go.Shelf

theorem infoTtm : (Tryz.prog.info? 57).map (·.size) = some 4 := by kernel_rfl
theorem txt_ok {e k : Nat} {s : PS} (hk : k ≠ 0) (h : Toks s.rest) : (bts (needK e s k).1).size ≤ 140737488351232 := by
  rw [bts_size]
  rcases needK_txt hk h with h1 | ⟨_, h1⟩
  · rw [h1]; simp
  · omega
theorem no_ok : noText.size ≤ 140737488351232 := by decide
set_option maxRecDepth 100000 in
set_option maxHeartbeats 1000000 in
theorem term_any (R e : Nat) (s : PS) (w : World) (h : Rdr R e w s) :
    Calls Tryz.prog 79 #[.pointer (some ⟨R, 0, none⟩)] w fun r w' => r = .returned (tmV (termM e s).1) ∧ okTm (termM e s).1 ∧ Rdr R e w' (termM e s).2 ∧ Kr R w w' := by
  have o0 : Own (w.alloc (.cells #[.string noText, .int .i64 0, .int .i64 0, .string noText] 57)) w.heap.size 57 [.string noText, .int .i64 0, .int .i64 0, .string noText] := heap_alloc_new _ _
  have HO0 := Lib.hid o0
  have HRw : R < w.heap.size := h.lt
  have H0 := Lib.hid (h.below ((Below.refl w.heap.size w).alloc (o := .cells #[.string noText, .int .i64 0, .int .i64 0, .string noText] 57) (Nat.le_refl _)))
  have K0 : Hid (Kr R w (w.alloc (.cells #[.string noText, .int .i64 0, .int .i64 0, .string noText] 57))) := (Kept.refl [R] w).alloc _
  have HN := Lib.hid (fun (w : World) (h : Rdr R e w s) => next_any R e s w h)
  have HK3 := Lib.hid (fun (w : World) (h : Rdr R e w s) => needKind_any R e 3 (by decide) s w h)
  have HK2 := Lib.hid (fun (w : World) (h : Rdr R e w s) => needKind_any R e 2 (by decide) s w h)
  have HNu := Lib.hid (fun (w : World) (h : Rdr R e w s) => number_any R e s w h)
  have HT3 := Lib.hid (txt_ok (e := e) (k := 3) (by decide) h.tok)
  have HT2 := Lib.hid (txt_ok (e := e) (k := 2) (by decide) h.tok)
  have hz0 : noText = bts [] := rfl
  unfold termM tmV
  clear h o0
  generalize nx e s = x at *
  by_cases hk3 : x.1 = 3
  · rw [if_pos hk3]
    have hk3i : (x.1 : Int) = 3 := by omega
    rw [show (tkV x) = .agg #[.int .i64 3, .string (bts x.2.1), .int .i64 (x.2.2 : Int)] by unfold tkV; rw [hk3i]] at HN
    clear hk3 hk3i HK2 HNu HT2
    simp only
    generalize needK e s 3 = q at *
    obtain ⟨t, s2⟩ := q
    simp only at HK3 HT3 ⊢
    go_enter Tryz.func79, Tryz.ntmps79
    go_wp2_with fail
    refine (HN.out _ H0.out).mono ?_
    rintro r w1 ⟨rfl, b1⟩
    have o1 := HO0.out.below b1
    have H1 := Lib.hid ((H0.out.below b1).below ((Below.refl w1.heap.size w1).alloc (o := .cells #[.int .i64 3, .string (bts x.2.1), .int .i64 (x.2.2 : Int)] 113) (Nat.le_refl _)))
    have hq1 : R < w1.heap.size := (H0.out.below b1).lt
    have HO1 := Lib.hid (o1.alloc (.cells #[.int .i64 3, .string (bts x.2.1), .int .i64 (x.2.2 : Int)] 113))
    have K1 := Lib.hid ((K0.out.then b1).alloc (.cells #[.int .i64 3, .string (bts x.2.1), .int .i64 (x.2.2 : Int)] 113))
    clear b1 o1 HN
    go_wp2_with fail
    refine ((HK3.out) _ H1.out).mono ?_
    rintro r w2 ⟨rfl, h2, k2⟩
    have HO2 := Lib.hid (k2.own HO1.out (by simp; omega))
    have H2 := Lib.hid h2
    have K2 := Lib.hid (Kr.tr K1.out k2)
    clear h2 k2
    go_wp2_with (refine wpList_store_row (o := ⟨none, .store 57 _ _, _, _, _, _⟩) rfl 57 _ _ rfl w.heap.size #[.string (bts t), .int .i64 0, .int .i64 0, .string noText] rfl rfl 57 _ HO2.out infoTtm rfl (by simp [Value.oneCell']) ?_)
    refine bodyPost_ret (results_cell_row (P := Tryz.prog) rfl _ _ w.heap.size 57 _ (0, 0) _ rfl (HO2.out.setRow [.string (bts t), .int .i64 0, .int .i64 0, .string noText]) Tryz.underlying57 rfl infoTtm) rfl ?_
    exact ⟨rfl, ⟨HT3.out, no_ok⟩, H2.out.setRow HRw _, K2.out.setRow (.inr (Nat.le_refl _)) _⟩
  · rw [if_neg hk3]
    have hk3i : ¬ ((x.1 : Int) = 3) := by omega
    by_cases hk2 : x.1 = 2
    · rw [if_pos hk2]
      have hk2i : (x.1 : Int) = 2 := by omega
      rw [show (tkV x) = .agg #[.int .i64 2, .string (bts x.2.1), .int .i64 (x.2.2 : Int)] by unfold tkV; rw [hk2i]] at HN
      clear hk3 hk3i hk2 hk2i HK3 HNu HT3
      simp only
      generalize needK e s 2 = q at *
      obtain ⟨t, s2⟩ := q
      simp only at HK2 HT2 ⊢
      go_enter Tryz.func79, Tryz.ntmps79
      go_wp2_with fail
      refine (HN.out _ H0.out).mono ?_
      rintro r w1 ⟨rfl, b1⟩
      have o1 := HO0.out.below b1
      have H1 := Lib.hid ((H0.out.below b1).below ((Below.refl w1.heap.size w1).alloc (o := .cells #[.int .i64 2, .string (bts x.2.1), .int .i64 (x.2.2 : Int)] 113) (Nat.le_refl _)))
      have hq1 : R < w1.heap.size := (H0.out.below b1).lt
      have HO1 := Lib.hid (o1.alloc (.cells #[.int .i64 2, .string (bts x.2.1), .int .i64 (x.2.2 : Int)] 113))
      have K1 := Lib.hid ((K0.out.then b1).alloc (.cells #[.int .i64 2, .string (bts x.2.1), .int .i64 (x.2.2 : Int)] 113))
      clear b1 o1 HN
      go_wp2_with fail
      refine ((HK2.out) _ H1.out).mono ?_
      rintro r w2 ⟨rfl, h2, k2⟩
      have HO2 := Lib.hid (k2.own HO1.out (by simp; omega))
      have H2 := Lib.hid h2
      have K2 := Lib.hid (Kr.tr K1.out k2)
      clear h2 k2
      go_wp2_with (refine wpList_store_row (o := ⟨none, .store 57 _ _, _, _, _, _⟩) rfl 57 _ _ rfl w.heap.size #[.string noText, .int .i64 2, .int .i64 0, .string (bts t)] rfl rfl 57 _ HO2.out infoTtm rfl (by simp [Value.oneCell']) ?_)
      refine bodyPost_ret (results_cell_row (P := Tryz.prog) rfl _ _ w.heap.size 57 _ (0, 0) _ rfl (HO2.out.setRow [.string noText, .int .i64 2, .int .i64 0, .string (bts t)]) Tryz.underlying57 rfl infoTtm) rfl ?_
      exact ⟨rfl, ⟨no_ok, HT2.out⟩, H2.out.setRow HRw _, K2.out.setRow (.inr (Nat.le_refl _)) _⟩
    · rw [if_neg hk2]
      have hk2i : ¬ ((x.1 : Int) = 2) := by omega
      rw [show (tkV x) = .agg #[.int .i64 (x.1 : Int), .string (bts x.2.1), .int .i64 (x.2.2 : Int)] from rfl] at HN
      clear hk3 hk2 HK3 HK2 HT2 HT3
      simp only
      generalize numM e s = q at *
      obtain ⟨t, s2⟩ := q
      simp only at HNu ⊢
      generalize (x.1 : Int) = xq at *
      go_enter Tryz.func79, Tryz.ntmps79
      go_wp2_with fail
      refine (HN.out _ H0.out).mono ?_
      rintro r w1 ⟨rfl, b1⟩
      have o1 := HO0.out.below b1
      have H1 := Lib.hid ((H0.out.below b1).below ((Below.refl w1.heap.size w1).alloc (o := .cells #[.int .i64 xq, .string (bts x.2.1), .int .i64 (x.2.2 : Int)] 113) (Nat.le_refl _)))
      have hq1 : R < w1.heap.size := (H0.out.below b1).lt
      have HO1 := Lib.hid (o1.alloc (.cells #[.int .i64 xq, .string (bts x.2.1), .int .i64 (x.2.2 : Int)] 113))
      have K1 := Lib.hid ((K0.out.then b1).alloc (.cells #[.int .i64 xq, .string (bts x.2.1), .int .i64 (x.2.2 : Int)] 113))
      clear b1 o1 HN
      go_wp2_with fail
      refine ((HNu.out) _ H1.out).mono ?_
      rintro r w2 ⟨rfl, h2, k2⟩
      have HO2 := Lib.hid (k2.own HO1.out (by simp; omega))
      have H2 := Lib.hid h2
      have K2 := Lib.hid (Kr.tr K1.out k2)
      clear h2 k2
      go_wp2_with (refine wpList_store_row (o := ⟨none, .store 57 _ _, _, _, _, _⟩) rfl 57 _ _ rfl w.heap.size #[.string noText, .int .i64 1, .int .i64 t, .string noText] rfl rfl 57 _ HO2.out infoTtm rfl (by simp [Value.oneCell']) ?_)
      refine bodyPost_ret (results_cell_row (P := Tryz.prog) rfl _ _ w.heap.size 57 _ (0, 0) _ rfl (HO2.out.setRow [.string noText, .int .i64 1, .int .i64 t, .string noText]) Tryz.underlying57 rfl infoTtm) rfl ?_
      exact ⟨rfl, ⟨no_ok, no_ok⟩, H2.out.setRow HRw _, K2.out.setRow (.inr (Nat.le_refl _)) _⟩
end Go.Proofs.YtolnikpihedmbaaGreatDoor
