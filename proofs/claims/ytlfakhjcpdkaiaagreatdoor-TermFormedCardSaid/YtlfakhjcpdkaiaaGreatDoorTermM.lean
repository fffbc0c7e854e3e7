/- The terms of an expression behind others, by the program and by the document. Conditions: lists of at most 100,000 terms. -/
import Derived.Test.YtlfakhjcpdkaiaaGreatDoorTermH
import Derived.Maps.AppendAt
import Derived.Laws.AppendOwnNone
import Derived.OwnWalk
set_option linter.unusedVariables false
set_option linter.unusedSimpArgs false
namespace Go.Proofs.YtlfakhjcpdkaiaaGreatDoor
open Go.RowKit Go.Deep Go.Shelf

/-- terms as cells. -/
def flatM : List TTm → List Value
  | [] => []
  | t :: r => .string t.v :: .int .i64 t.k :: .int .i64 t.n :: .string t.s :: flatM r
theorem flatM_len (l : List TTm) : (flatM l).length = l.length * 4 := by
  induction l with
  | nil => rfl
  | cons x r ih => simp only [flatM, List.length_cons, ih]; omega
theorem flatM_append (l m : List TTm) : flatM (l ++ m) = flatM l ++ flatM m := by
  induction l with
  | nil => rfl
  | cons x r ih => simp [flatM, ih]
theorem flatM_one : ∀ (l : List TTm), ∀ u ∈ flatM l, u.oneCell' = true
  | [], u, h => by cases h
  | t :: r, u, h => by
    simp only [flatM, List.mem_cons] at h
    rcases h with rfl | rfl | rfl | rfl | h
    · rfl
    · rfl
    · rfl
    · rfl
    · exact flatM_one r u h
theorem flatM_at : ∀ (l : List TTm) (i : Nat) (x : TTm), l[i]? = some x → (flatM l)[i * 4]? = some (.string x.v) ∧ (flatM l)[i * 4 + 1]? = some (.int .i64 x.k) ∧ (flatM l)[i * 4 + 2]? = some (.int .i64 x.n) ∧ (flatM l)[i * 4 + 3]? = some (.string x.s)
  | t :: r, 0, x, h => by
    simp only [List.getElem?_cons_zero, Option.some.injEq] at h
    subst h
    exact ⟨rfl, rfl, rfl, rfl⟩
  | t :: r, i + 1, x, h => by
    simp only [List.getElem?_cons_succ] at h
    have ih := flatM_at r i x h
    have e : ∀ k, (flatM (t :: r))[(i + 1) * 4 + k]? = (flatM r)[i * 4 + k]? := fun k => by
      rw [show (i + 1) * 4 + k = (i * 4 + k) + 1 + 1 + 1 + 1 by omega]
      simp only [flatM, List.getElem?_cons_succ]
    exact ⟨(e 0).trans ih.1, (e 1).trans ih.2.1, (e 2).trans ih.2.2.1, (e 3).trans ih.2.2.2⟩
theorem flatM_cells {w : World} {b o : Nat} {l : List TTm} (h : ∀ i x, l[i]? = some x → TmC w b (o + i * 4) x) : ∀ j u, (flatM l)[j]? = some u → w.cell? (Addr.add ⟨b, o, none⟩ j) = some u := by
  intro j u hu
  have hj := (List.getElem?_eq_some_iff.1 hu).1
  rw [flatM_len] at hj
  have hi : j / 4 < l.length := by omega
  have hx := List.getElem?_eq_getElem hi
  obtain ⟨c0, c1, c2, c3, _⟩ := h (j / 4) _ hx
  obtain ⟨f0, f1, f2, f3⟩ := flatM_at l (j / 4) _ hx
  have ha : (Addr.add ⟨b, o, none⟩ j) = ⟨b, o + j, none⟩ := by unfold Addr.add; split <;> simp_all
  rw [ha]
  have hm : j % 4 = 0 ∨ j % 4 = 1 ∨ j % 4 = 2 ∨ j % 4 = 3 := by omega
  rcases hm with hm | hm | hm | hm
  · have e : j = j / 4 * 4 := by omega
    rw [e] at hu ⊢
    rw [f0] at hu
    rw [← hu]; exact c0
  · have e : j = j / 4 * 4 + 1 := by omega
    rw [e] at hu ⊢
    rw [f1] at hu
    rw [← hu]; exact c1
  · have e : j = j / 4 * 4 + 2 := by omega
    rw [e] at hu ⊢
    rw [f2] at hu
    rw [← hu]; exact c2
  · have e : j = j / 4 * 4 + 3 := by omega
    rw [e] at hu ⊢
    rw [f3] at hu
    rw [← hu]; exact c3
theorem own_valueM {w : World} {base n k : Nat} {e : TypeId} {v : Value} {xs : List Value} (h : w.ownsRow base e k v n xs) : ∃ A c, v = .slice A n c ∧ (A = none → c = 0) ∧ ∀ g, v.ownBlock = some g → base ≤ g := by
  rcases h.2 with ⟨h1, h2⟩ | ⟨g, cap, cur, h1, hg, _⟩
  · exact ⟨none, 0, by rw [h1, h2], (fun _ => rfl), fun g hg => by rw [h1] at hg; cases hg⟩
  · refine ⟨_, cap, h1, (fun h => by cases h), fun g' hg' => ?_⟩
    rw [h1] at hg'
    simp [Value.ownBlock] at hg'
    omega
theorem own_below {w w' : World} {base n k : Nat} {e : TypeId} {v : Value} {xs : List Value} (h : w.ownsRow base e k v n xs) (hb : Below w.heap.size w w') : w'.ownsRow base e k v n xs :=
  ⟨h.1, h.2.imp id fun ⟨g, cap, cur, h1, h2, h3, h4⟩ => ⟨g, cap, cur, h1, h2, (hb.block g (Array.getElem?_eq_some_iff.1 h3).1).trans h3, h4⟩⟩
/-- an own row of terms, read. -/
theorem Rg.own {w : World} {base : Nat} {e : TypeId} {A : Option Addr} {c : Nat} {l : List TTm} (h : w.ownsRow base e 4 (.slice A l.length c) l.length (flatM l)) (hok : ∀ t ∈ l, okTm t) (hl : l.length ≤ 100000) : Rg 4 TmC w A l := by
  refine ⟨by omega, fun h0 => ?_⟩
  rcases h.2 with ⟨h1, h2⟩ | ⟨g, cap, cur, h1, hg, hc, hcap, _, hcs, htake⟩
  · omega
  · injection h1 with h1 _ _
    subst h1
    refine ⟨g, 0, rfl, (Array.getElem?_eq_some_iff.1 hc).1, fun i y hy => ?_⟩
    have hcell : ∀ (j : Nat) u, (flatM l)[j]? = some u → w.cell? ⟨g, j, none⟩ = some u := fun j u hu => by
      rw [cell_of_row w g j cur e (0, 0) hc]
      rw [← htake, List.getElem?_take] at hu
      split at hu
      · simpa using hu
      · cases hu
    obtain ⟨f0, f1, f2, f3⟩ := flatM_at l i y hy
    rw [Nat.zero_add]
    exact ⟨hcell _ _ f0, hcell _ _ f1, hcell _ _ f2, hcell _ _ f3, hok y (List.mem_of_getElem? hy)⟩
theorem infoTm : (Tryz.prog.info? 41).map (fun i => (i.zero, i.size, i.bytes)) = some (some (.agg #[.string noText, .int .i64 0, .int .i64 0, .string noText]), 4, 48) := by kernel_rfl
theorem infoRtm : (Tryz.prog.info? 91).map (fun i => (i.zero, i.size, i.bytes)) = some (some (.agg #[.string noText, .int .i64 0, .int .i64 0, .string noText]), 4, 48) := by kernel_rfl
set_option maxRecDepth 100000 in
/-- 'append(own, terms...)'. -/
theorem appTm (w : World) {ops : Array Oper} {rest : List Oper} {o : Oper} {a : Act} {Q : Exit → Act → World → Prop}
    (hg : o.guard = none) (S E : TypeId) (hu : Tryz.prog.underlying S = some (.slice E)) (hinf : (Tryz.prog.info? E).map (fun i => (i.zero, i.size, i.bytes)) = some (some (.agg #[.string noText, .int .i64 0, .int .i64 0, .string noText]), 4, 48))
    (s x : Operand) (hop : o.op = Op.call { callee := Callee.builtin Builtin.append, args := #[s, x], argTypes := #[S, S] })
    (base : Nat) (L : List TTm) (v : Value) (hs : a.eval s = v) (hown : w.ownsRow base E 4 v L.length (flatM L)) (A : Option Addr) (c : Nat) (l : List TTm) (hx : a.eval x = .slice A l.length c)
    (hn : A = none → c = 0) (hr : Rg 4 TmC w A l) (hsz : L.length + l.length ≤ 100000) (hbase : base ≤ w.heap.size)
    (hK : ∀ A' c' w', w'.ownsRow base E 4 (.slice A' (L.length + l.length) c') (L.length + l.length) (flatM (L ++ l)) → (A' = none → c' = 0) → Below base w w' → wpList Tryz.prog ops Q rest (a.put o.dst (.slice A' (L.length + l.length) c')) w') :
    wpList Tryz.prog ops Q (o :: rest) a w := by
  obtain ⟨i, hi, hz, hs1, hb⟩ := info_parts hinf
  obtain ⟨A0, c0, hv, hn0, hbl⟩ := own_valueM hown
  cases A with
  | none =>
    have hl0 : l = [] := by
      cases l with
      | nil => rfl
      | cons x r => obtain ⟨b, o, h, _⟩ := hr.2 (by simp); cases h
    subst hl0
    have hc := hn rfl
    subst hc
    refine wpList_append_own_none hg s x S hop base E i 4 hu hi v L.length (flatM L) hs hown hx ?_
    rw [hv]
    rw [hv] at hown
    have := hK A0 c0 w (by simpa using hown) hn0 (Below.refl _ _)
    exact this
  | some ad =>
    have hcells : ∀ j u, (flatM l)[j]? = some u → w.cell? (ad.add j) = some u := by
      intro j u hu
      have h0 : 0 < l.length := by
        rcases Nat.eq_zero_or_pos l.length with h | h
        · have : l = [] := List.eq_nil_of_length_eq_zero h
          subst this
          simp [flatM] at hu
        · exact h
      obtain ⟨b, o, h, _, hc⟩ := hr.2 h0
      injection h with h
      subst h
      exact flatM_cells hc j u hu
    refine wpList_append_own w hg s x S hop base E i _ 4 48 hu hi hz hs1 hb rfl (by decide) v L.length (flatM L) hs hown ad l.length c (flatM l) hx (flatM_len l) hcells (flatM_one l) (by unfold maxLen; omega) (by omega) hbase ?_
    intro v' w' ho hgr _
    rw [← flatM_append] at ho
    obtain ⟨A', c', hv', hn', _⟩ := own_valueM ho
    subst hv'
    refine hK A' c' w' ho hn' ?_
    have hgb : Below base w w' := (Below.refl base w).grown hgr hbase hbl
    exact hgb
/-- one term laid for an append. -/
theorem one_tm (w : World) (t : TTm) (E : TypeId) (hok : okTm t) : Rg 4 TmC (w.alloc (.cells #[.string t.v, .int .i64 t.k, .int .i64 t.n, .string t.s] E)) (some ⟨w.heap.size, 0, none⟩) [t] := by
  refine ⟨by simp, fun _ => ⟨w.heap.size, 0, rfl, by simp, fun i y hy => ?_⟩⟩
  have hi : i = 0 := by
    have := (List.getElem?_eq_some_iff.1 hy).1
    simpa using this
  subst hi
  simp only [List.getElem?_cons_zero, Option.some.injEq] at hy
  subst hy
  exact ⟨by simp, by simp, by simp, by simp, hok⟩
/-- where a list of terms ends: own, in the form that the next append asks. -/
def OwnT (w0 : World) (E : TypeId) (L : List TTm) (e : Ending) (w' : World) : Prop :=
  ∃ A c, e = .returned (.slice A L.length c) ∧ w'.ownsRow w0.heap.size E 4 (.slice A L.length c) L.length (flatM L) ∧ (A = none → c = 0) ∧ Below w0.heap.size w0 w'

set_option maxRecDepth 100000 in
set_option maxHeartbeats 1000000 in
theorem terms_any (n : Nat) : ∀ (e : TEx) (A : Option Addr) (c : Nat) (w0 w : World) (L : List TTm) (LA : Option Addr) (lc : Nat), cntE e ≤ n → ExV w0 e A → L.length + cntE e ≤ 90000 → Below w0.heap.size w0 w →
    w.ownsRow w0.heap.size 41 4 (.slice LA L.length lc) L.length (flatM L) → (LA = none → lc = 0) →
    Calls Tryz.prog 69 #[exV e A c, .slice LA L.length lc] w (OwnT w0 41 (L ++ termsE e)) := by
  induction n with
  | zero => intro e _ _ _ _ _ _ _ h; have := cntE_pos e; omega
  | succ n ih =>
    intro e A c w0 w L LA lc hn hV hsz hB0 hO hLn
    have HV := Lib.hid hV
    have hlen := hV.row.1
    have HO := Lib.hid hO
    have HLn := Lib.hid hLn
    have HB0 := Lib.hid hB0
    have hsz0 := hB0.size
    have hK : ∀ k (hk : k < e.kids.length), cntE e.kids[k] ≤ n := fun k hk => by have := cntE_kid hk; omega
    have HK := Lib.hid hK
    have hcn := cntE_pos e
    have hb1 : Below w.heap.size w (w.alloc (.cells #[.int .i64 e.op, .string e.t.v, .int .i64 e.t.k, .int .i64 e.t.n, .string e.t.s, .slice A e.kids.length c] 48)) := (Below.refl _ _).alloc (Nat.le_refl _) _
    unfold exV
    clear hV hO hLn hB0 hK hn
    by_cases h0 : e.kids.length = 0
    · have C : Hid (∀ W, Calls Tryz.prog 71 #[.agg #[.int .i64 e.op, .string e.t.v, .int .i64 e.t.k, .int .i64 e.t.n, .string e.t.s, .slice A e.kids.length c]] W fun r w' => r = .returned (.bool true) ∧ Below W.heap.size W w') := fun W => leaf_is e A c true (by simp [h0]) W
      have HT : Hid (termsE e = [e.t]) := termsE_leaf (List.eq_nil_of_length_eq_zero h0)
      clear h0
      go_enter Tryz.func69, Tryz.ntmps69
      go_wp2_with fail
      refine (C.out _).mono ?_
      rintro r w1 ⟨rfl, hb⟩
      have c1 := (hb.cell (p := ⟨w.heap.size, 1, none⟩) (by simp)).trans ((World.cell?_alloc_new _ _ _ _).trans rfl)
      have c2 := (hb.cell (p := ⟨w.heap.size, 2, none⟩) (by simp)).trans ((World.cell?_alloc_new _ _ _ _).trans rfl)
      have c3 := (hb.cell (p := ⟨w.heap.size, 3, none⟩) (by simp)).trans ((World.cell?_alloc_new _ _ _ _).trans rfl)
      have c4 := (hb.cell (p := ⟨w.heap.size, 4, none⟩) (by simp)).trans ((World.cell?_alloc_new _ _ _ _).trans rfl)
      have hbw : Below w.heap.size w w1 := hb1.trans (hb.mono (by simp))
      have HB1 := Lib.hid (HB0.out.trans (hbw.mono hsz0))
      have HO1 := Lib.hid (own_below HO.out hbw)
      have hs1 : w0.heap.size ≤ w1.heap.size := HB1.out.size
      clear hb hbw
      go_wp2_with (at_builtin; refine appTm _ rfl 42 41 Tryz.underlying42 infoTm (.tmp 9) (.tmp 12) rfl w0.heap.size L _ rfl (HO1.out.alloc _) (some ⟨w1.heap.size, 0, none⟩) 1 [e.t] rfl (fun h => by cases h) (one_tm w1 e.t 41 HV.out.ok) (by simp; omega) (by simp; omega) ?_; intro A' c' w2 ho hn' hb2)
      have hbf : Below w0.heap.size w0 w2 := HB1.out.trans (((Below.refl _ _).alloc hs1 _).trans hb2)
      go_ret
      rw [HT.out]
      exact ⟨A', c', by rw [List.length_append]; rfl, by rw [List.length_append]; exact ho, hn', hbf⟩
    · have C : Hid (∀ W, Calls Tryz.prog 71 #[.agg #[.int .i64 e.op, .string e.t.v, .int .i64 e.t.k, .int .i64 e.t.n, .string e.t.s, .slice A e.kids.length c]] W fun r w' => r = .returned (.bool false) ∧ Below W.heap.size W w') := fun W => leaf_is e A c false (by simp [h0]) W
      have HT : Hid (termsE e = termsEs e.kids) := termsE_node (fun h => h0 (by rw [h]; rfl))
      have hcs : cntEs e.kids + 1 = cntE e := by cases e with | mk o t ks => show cntEs ks + 1 = cntE (.mk o t ks); rw [cntE]; omega
      clear h0
      go_enter Tryz.func69, Tryz.ntmps69
      go_wp2_with fail
      refine (C.out _).mono ?_
      rintro r w1 ⟨rfl, hb⟩
      have c5 := (hb.cell (p := ⟨w.heap.size, 5, none⟩) (by simp)).trans ((World.cell?_alloc_new _ _ _ _).trans rfl)
      have hbw : Below w.heap.size w w1 := hb1.trans (hb.mono (by simp))
      have HB1 := Lib.hid (HB0.out.trans (hbw.mono hsz0))
      have HO1 := Lib.hid (own_below HO.out hbw)
      have hs1 : w0.heap.size ≤ w1.heap.size := HB1.out.size
      clear hb hbw
      go_wp2_with fail
      go_loopw [1, 17] (fun lv i wr => ∃ (j : Nat) (Aj : Option Addr) (cj : Nat), j ≤ e.kids.length ∧ i = .int .i64 j ∧ lv = .slice Aj (L ++ termsEs (e.kids.take j)).length cj ∧ Hid (wr.ownsRow w0.heap.size 41 4 (.slice Aj (L ++ termsEs (e.kids.take j)).length cj) (L ++ termsEs (e.kids.take j)).length (flatM (L ++ termsEs (e.kids.take j)))) ∧
        Hid (Aj = none → cj = 0) ∧ Hid (Below w0.heap.size w0 wr)) (fun _ i _ => e.kids.length - (intOf i).toNat)
      case atStart =>
        refine ⟨0, LA, lc, Nat.zero_le _, rfl, ?_, ?_, HLn, HB1⟩
        · simp [termsEs]
        · have e0 : L ++ termsEs (e.kids.take 0) = L := by simp [termsEs]
          rw [e0]
          exact HO1
      case round =>
        obtain ⟨j, Aj, cj, hj, rfl, rfl, HOj, HNj, HB⟩ := hrel
        by_cases hlt : j < e.kids.length
        · obtain ⟨b, o, rfl, hbw, hc⟩ := HV.out.row.at_ hlt
          obtain ⟨A', c', d0, d1, d2, d3, d4, d5, hkv⟩ := hc.open_
          have d0 := (HB.out.cell (p := ⟨b, _, none⟩) hbw).trans d0
          have d1 := (HB.out.cell (p := ⟨b, _, none⟩) hbw).trans d1
          have d2 := (HB.out.cell (p := ⟨b, _, none⟩) hbw).trans d2
          have d3 := (HB.out.cell (p := ⟨b, _, none⟩) hbw).trans d3
          have d4 := (HB.out.cell (p := ⟨b, _, none⟩) hbw).trans d4
          have d5 := (HB.out.cell (p := ⟨b, _, none⟩) hbw).trans d5
          have HKV := Lib.hid hkv
          have hki := HK.out j hlt
          have hsn := termsEs_snoc hlt
          have hbd : (L ++ termsEs (e.kids.take j)).length + cntE e.kids[j] ≤ 90000 := by
            have h1 := termss_len (e.kids.take j)
            have h2 : cntEs e.kids = cntEs (e.kids.take j) + cntEs (e.kids.drop j) := by rw [← cntEs_append, List.take_append_drop]
            rw [List.drop_eq_getElem_cons hlt, cntEs] at h2
            rw [List.length_append]
            omega
          have HE : Hid ((L ++ termsEs (e.kids.take j)) ++ termsE e.kids[j] = L ++ termsEs (e.kids.take (j + 1))) := by show _ = _; rw [hsn, List.append_assoc]
          clear hc hkv hsn
          generalize e.kids[j] = y at *
          generalize L ++ termsEs (e.kids.take j) = Lj at *
          go_wp2_with fail
          refine (ih y A' c' w0 _ Lj Aj cj hki HKV.out hbd (HB.out.trans ((Below.refl _ _).alloc HB.out.size _)) (HOj.out.alloc _) HNj.out).mono ?_
          rintro r w' ⟨A2, c2, rfl, ho2, hn2, hb2⟩
          rw [HE.out] at ho2 ⊢
          have HO2 := Lib.hid ho2
          have HN2 := Lib.hid hn2
          have HB2 := Lib.hid hb2
          clear ho2 hn2 hb2 d0 d1 d2 d3 d4 d5
          go_wp2_with fail
          go_roundw
          case rel => exact ⟨j + 1, A2, c2, by omega, by go_num, by simp, HO2, HN2, HB2⟩
          case measure => simp [intOf]; omega
        · have hjk : j = e.kids.length := by omega
          have ef : L ++ termsEs (e.kids.take j) = L ++ termsE e := by rw [hjk, List.take_length, HT.out]
          rw [ef] at HOj ⊢
          clear ef HT hjk
          go_wp2_with fail
          go_ret
          exact ⟨Aj, cj, rfl, HOj.out, HNj.out, HB.out⟩
end Go.Proofs.YtlfakhjcpdkaiaaGreatDoor
