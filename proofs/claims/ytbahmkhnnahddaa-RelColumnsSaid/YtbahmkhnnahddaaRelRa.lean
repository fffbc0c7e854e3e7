/- The document's relations: Same of tuples, Has; appending lists. Conditions: at most 2000 tuples. -/
import Derived.Test.YtbahmkhnnahddaaRelX
import Derived.Maps.AppendAt
import Derived.Laws.AppendOwnNone
namespace Go.Proofs.Ytbahmkhnnahddaa
open Go.RowKit Go.Deep Go.Shelf

/-- the document's relation as a value. -/
abbrev rv3 (a : Int) (A : Option Addr) (n c : Nat) : Value := .agg #[.int .i64 a, .slice A n c]
/-- the document's relation in memory, apart from S. -/
def RefM (S : List Nat) (w : World) (a : Int) (m : Value) (us : List TV) : Prop :=
  ∃ A c, m = rv3 a A us.length c ∧ (A = none → c = 0) ∧ us.length ≤ c ∧ Lst S w A us ∧ (∀ t ∈ us, t.1 = none → t.2.1 = 0) ∧ (A = none ∨ ∃ g o, A = some ⟨g, o, none⟩)
theorem RefM.kept {S S' : List Nat} {w w' : World} {a : Int} {m : Value} {us : List TV} (h : RefM S w a m us) (hk : Kept S w w') (hs : Sub S' S w.heap.size) : RefM S' w' a m us := by
  obtain ⟨A, c, h1, h2, h3, h4, h5⟩ := h
  exact ⟨A, c, h1, h2, h3, h4.kept hk hs, h5⟩
theorem RefM.below {S : List Nat} {w w' : World} {a : Int} {m : Value} {us : List TV} (h : RefM S w a m us) (hb : Below w.heap.size w w') : RefM S w' a m us := h.kept (Kept.of S hb) (Sub.refl _ _)

theorem lt_cases (a b : List V3) : (lessT a b = false ∧ lessT b a = false) ↔ cmpT a b = 0 := by
  rcases tup_cases a b with ⟨h1, h2, h3, h4⟩ | ⟨h1, h2, h3, h4⟩ | ⟨h1, h2, h3, h4, _⟩ <;> simp [h1, h3, h4]
set_option maxRecDepth 100000 in
set_option maxHeartbeats 400000 in
theorem refSame_any (x y : TV) (hx : x.2.2.length ≤ maxLen) (hy : y.2.2.length ≤ maxLen) (w : World) (hr : Row w x.1 x.2.2) (hr' : Row w y.1 y.2.2) :
    Calls Try.prog 41 #[tval x, tval y] w fun e w' => e = .returned (.bool (decide (cmpT x.2.2 y.2.2 = 0))) ∧ Below w.heap.size w w' := by
  obtain ⟨X, xc, xl⟩ := x
  obtain ⟨Y, yc, yl⟩ := y
  have H1 := Lib.hid (LessT_any X Y xc yc xl yl hx hy w hr hr')
  have H2 := Lib.hid (fun W (hb : Below w.heap.size w W) => LessT_any Y X yc xc yl xl hy hx W (hr'.below hb) (hr.below hb))
  have HC := Lib.hid (lt_cases xl yl)
  clear hr hr' hx hy
  simp only
  by_cases h1 : lessT xl yl = true
  · have HQ : Hid (decide (cmpT xl yl = 0) = false) := decide_eq_false fun h0 => by have := (HC.out.2 h0).1; rw [h1] at this; cases this
    rw [h1] at H1
    clear h1 H2 HC
    go_enter Try.func41, Try.ntmps41
    go_wp2_with fail
    refine H1.out.mono ?_
    rintro e w1 ⟨rfl, b1⟩
    go_wp2
    go_ret
    exact ⟨ret_bool HQ.out.symm, b1⟩
  · have h1 : lessT xl yl = false := by simpa using h1
    have HQ : Hid (decide (cmpT xl yl = 0) = !lessT yl xl) := by
      show _ = _
      cases h2 : lessT yl xl with
      | true => exact decide_eq_false fun h0 => by have := (HC.out.2 h0).2; rw [h2] at this; cases this
      | false => exact decide_eq_true (HC.out.1 ⟨h1, h2⟩)
    rw [h1] at H1
    clear h1 HC
    generalize lessT yl xl = r at H2 HQ
    go_enter Try.func41, Try.ntmps41
    go_wp2_with fail
    refine H1.out.mono ?_
    rintro e w1 ⟨rfl, b1⟩
    have B1 := Lib.hid b1
    clear b1
    go_wp2_with fail
    refine (H2.out _ B1.out).mono ?_
    rintro e w2 ⟨rfl, b2⟩
    have B2 := Lib.hid (B1.out.trans (b2.mono B1.out.size))
    clear b2
    go_wp2
    go_ret
    exact ⟨ret_bool (by rw [HQ.out]), B2.out⟩

theorem fnd_step {ts : List TV} {k : Nat} (hk : k < ts.length) (x : List V3) : fndT (lists (ts.drop k)) x = (decide (cmpT ts[k].2.2 x = 0) || fndT (lists (ts.drop (k + 1))) x) := by
  rw [List.drop_eq_getElem_cons hk]
  rfl
set_option maxRecDepth 100000 in
set_option maxHeartbeats 1000000 in
theorem refHas_any (a : Int) (m : Value) (us : List TV) (x : TV) (w : World) (hm : RefM [] w a m us) (hf : Fits us) (hn : us.length ≤ 4000) (hx : Row w x.1 x.2.2) (hxl : x.2.2.length ≤ maxLen) :
    Calls Try.prog 13 #[m, tval x] w fun e w' => e = .returned (.bool (fndT (lists us) x.2.2)) ∧ Below w.heap.size w w' := by
  obtain ⟨A, c, rfl, hA, hc, hl, _⟩ := hm
  obtain ⟨X, xc, xl⟩ := x
  have hO : Own (w.alloc (.cells #[.int .i64 a, .slice A us.length c] 33)) w.heap.size 33 [.int .i64 a, .slice A us.length c] := heap_alloc_new w _
  have hb0 : Below w.heap.size w (w.alloc (.cells #[.int .i64 a, .slice A us.length c] 33)) := (Below.refl _ _).alloc (Nat.le_refl _) _
  have hs0 : (w.alloc (.cells #[.int .i64 a, .slice A us.length c] 33)).heap.size = w.heap.size + 1 := by simp
  obtain ⟨w0, hw0⟩ : ∃ w0, w0 = w.alloc (.cells #[.int .i64 a, .slice A us.length c] 33) := ⟨_, rfl⟩
  rw [← hw0] at hO hb0 hs0
  have HL := Lib.hid (hl.below hb0)
  have HX := Lib.hid (hx.below hb0)
  have HF := Lib.hid hf
  have HO := Lib.hid hO
  have HB0 := Lib.hid hb0
  have HW := Lib.hid hw0
  have HS0 := Lib.hid hs0
  clear hl hx hf hO hb0 hw0 hs0
  simp only at hxl ⊢
  go_enter Try.func13, Try.ntmps13
  go_wp2_with fail
  rw [← HW.out]
  go_loopw [5] (fun ix wr => ∃ k : Nat, k ≤ us.length ∧ ix = .int .i64 k ∧ Hid (fndT (lists us) xl = fndT (lists (us.drop k)) xl) ∧ Hid (Below w0.heap.size w0 wr)) (fun ix _ => us.length - (intOf ix).toNat)
  case atStart => exact ⟨0, Nat.zero_le _, rfl, rfl, Below.refl _ _⟩
  case round =>
    obtain ⟨k, hk, rfl, HI, HB⟩ := hrel
    have ho := HO.out.below HB.out
    have h1 := ho.cell 1
    have q1 := ho.lt
    clear ho
    by_cases hlt : k < us.length
    · obtain ⟨g, o, rfl, hgw, _, hc1, hr⟩ := HL.out.at_ hlt
      have hfl := HF.out _ (List.getElem_mem hlt)
      have HS := Lib.hid (HI.out.trans (fnd_step hlt xl))
      generalize us[k] = t at hc1 hr hfl HS
      obtain ⟨T, tc, tl⟩ := t
      have hc1 := (HB.out.cell (p := ⟨g, o + k, none⟩) hgw).trans hc1
      change wr.cell? ⟨g, o + k, none⟩ = some (.slice T tl.length tc) at hc1
      have qg : g < wr.heap.size := Nat.lt_of_lt_of_le hgw HB.out.size
      have HC := Lib.hid (refSame_any (T, tc, tl) (X, xc, xl) hfl hxl wr (hr.row.below HB.out) (HX.out.below HB.out))
      simp only at HS HC
      generalize decide (cmpT tl xl = 0) = r at HS HC
      clear HI hr hfl
      go_wp2_with fail
      refine HC.out.mono ?_
      rintro e w1 ⟨rfl, b1⟩
      have B1 := Lib.hid (HB.out.trans (b1.mono HB.out.size))
      clear b1 hc1 h1 HC
      cases r with
      | true =>
        have HQ : Hid (fndT (lists us) xl = true) := by have := HS.out; rwa [Bool.true_or] at this
        clear HS
        go_wp2
        go_ret
        exact ⟨ret_bool HQ.out.symm, HB0.out.trans (B1.out.mono HB0.out.size)⟩
      | false =>
        have HQ : Hid (fndT (lists us) xl = fndT (lists (us.drop (k + 1))) xl) := by have := HS.out; rwa [Bool.false_or] at this
        clear HS
        go_wp2
        go_roundw
        case rel => exact ⟨k + 1, by omega, by go_num, HQ.out, B1.out⟩
        case measure => simp [intOf]; omega
    · have HQ : Hid (fndT (lists us) xl = false) := by
        have := HI.out
        rw [List.drop_eq_nil_of_le (by omega)] at this
        exact this
      go_wp2
      go_ret
      exact ⟨ret_bool HQ.out.symm, HB0.out.trans (HB.out.mono HB0.out.size)⟩

/-- 'append' as a step of a region that draws its order, where its run is known. -/
theorem step_append_runR {P : Program} {ops : Array Oper} {o : Oper} {a : Act} {w : World} {K : Act → World → Prop} {Q : Exit → Act → World → Prop} {E : Prop}
    (hg : o.guard = none) (d x : Operand) (dT sT : TypeId) (hop : o.op = Op.call { callee := Callee.builtin Builtin.append, args := #[d, x], argTypes := #[dT, sT] })
    (v u : Value) (hd : a.eval d = v) (hx : a.eval x = u) {v' : Value} {w' : World} (hr : (Builtin.append_ #[dT, sT] o.type #[v, u]).run P w = .ok v' w') (hK : K (a.put o.dst v') w') :
    if Region.wanted o (yielded ops a.tmps) = true then Oper.wp P o a w K Q else E := by
  have hw : Region.wanted o (yielded ops a.tmps) = true := by simp [Region.wanted, hg]
  rw [if_pos hw]
  unfold Oper.wp
  simp [execOp, hop, resolve, invoke, builtin, hd, hx, hr, Result.andThen]
  exact hK

/-- a slice of the call's own stays so while its block lies as it lay. -/
theorem owns_keep {w w' : World} {base n size : Nat} {e : TypeId} {v : Value} {xs : List Value} (h : w.ownsRow base e size v n xs) (hk : ∀ k, v.ownBlock = some k → k < w.heap.size → w'.heap[k]? = w.heap[k]?) : w'.ownsRow base e size v n xs := by
  obtain ⟨h1, h2 | ⟨g, cap, cur, h2, h3, h4, h5⟩⟩ := h
  · exact ⟨h1, .inl h2⟩
  · refine ⟨h1, .inr ⟨g, cap, cur, h2, h3, ?_, h5⟩⟩
    rw [hk g (by rw [h2]; rfl) (Array.getElem?_eq_some_iff.1 h4).1]
    exact h4
set_option maxRecDepth 100000 in
/-- a list's own slice, with a list more behind it. -/
theorem app_run (w : World) (base : Nat) (v : Value) (us : List TV) (hown : w.ownsRow base 35 1 v us.length (us.map tval)) (A : Option Addr) (c : Nat) (xs : List TV) (hA : A = none → c = 0) (hl : Lst [] w A xs) (hlen : us.length + xs.length ≤ 8000) (hbase : base ≤ w.heap.size) :
    ∃ v' w', (Builtin.append_ #[31, 31] 31 #[v, .slice A xs.length c]).run Try.prog w = .ok v' w' ∧ w'.ownsRow base 35 1 v' (us ++ xs).length ((us ++ xs).map tval) ∧ w.grownBy w' v.ownBlock ∧ (v'.ownBlock = v.ownBlock ∨ v'.ownBlock = some w.heap.size) := by
  obtain ⟨i0, hi0, hz0, hzs, hzb⟩ := info_parts infoTup
  cases A with
  | none =>
    have h0 : xs = [] := by
      cases xs with
      | nil => rfl
      | cons t r =>
        obtain ⟨b, o, h, _⟩ := hl.1 (by simp)
        cases h
    subst h0
    obtain rfl := hA rfl
    exact ⟨v, w, run_append_owned_none (P := Try.prog) (w := w) base 31 31 35 i0 1 Try.underlying31 hi0 v us.length _ hown, by simpa using hown, ⟨rfl, rfl, rfl, Nat.le_refl _, fun _ _ _ => rfl⟩, .inl rfl⟩
  | some ad =>
    have hnews : ∀ j u, (xs.map tval)[j]? = some u → w.cell? (ad.add j) = some u := fun j u hj => by
      rw [List.getElem?_map] at hj
      cases ht : xs[j]? with
      | none => rw [ht] at hj; cases hj
      | some t =>
        rw [ht] at hj
        cases hj
        have hjl : j < xs.length := (List.getElem?_eq_some_iff.1 ht).1
        obtain ⟨b, o, h1, h2, _, h3⟩ := hl.1 (by omega)
        injection h1 with h1
        subst h1
        rw [Addr.add_lit]
        exact h3 j t ht
    obtain ⟨v', w', h1, h2, h3, _, h5⟩ := run_append_own_at (P := Try.prog) w base 31 31 35 i0 _ 1 24 Try.underlying31 hi0 hz0 hzs hzb rfl (by decide) v us.length (us.map tval) hown ad xs.length c (xs.map tval) (by simp) hnews (one_tvals xs) (by unfold maxLen; omega) (by omega) hbase
    refine ⟨v', w', h1, ?_, h3, h5⟩
    rw [List.length_append, List.map_append]
    exact h2

set_option maxRecDepth 100000 in
/-- a tuple in memory of its own. -/
theorem appT_run (w : World) (base g : Nat) (X : Option Addr) (xc : Nat) (xl : List V3) (hown : w.ownsRow base 48 3 (.slice (some ⟨g, 0, none⟩) 0 0) 0 []) (hX : X = none → xc = 0) (hr : Row w X xl) (hlen : xl.length ≤ 100) (hbase : base ≤ w.heap.size) :
    ∃ A' c' w', (Builtin.append_ #[35, 35] 35 #[.slice (some ⟨g, 0, none⟩) 0 0, .slice X xl.length xc]).run Try.prog w = .ok (.slice A' xl.length c') w' ∧ (A' = none → c' = 0) ∧ Row w' A' xl ∧ (∀ g' o, A' = some ⟨g', o, none⟩ → base ≤ g') ∧ Kept [g] w w' := by
  obtain ⟨i, hi, hz, hs, hb⟩ := info_parts infoVal
  have hgb : base ≤ g := by
    obtain ⟨_, ⟨h, _⟩ | ⟨g', _, _, h, h2, _⟩⟩ := hown
    · cases h
    · injection h with h
      injection h with h
      injection h with h
      omega
  cases X with
  | none =>
    have hl0 : xl = [] := by
      cases xl with
      | nil => rfl
      | cons x r => obtain ⟨b, o, h, _⟩ := hr (by simp); cases h
    subst hl0
    obtain rfl := hX rfl
    refine ⟨some ⟨g, 0, none⟩, 0, w, run_append_owned_none (P := Try.prog) (w := w) base 35 35 48 i 3 Try.underlying35 hi _ 0 _ hown, (fun h => by cases h), Row.nil _ _, fun g' o h => ?_, Kept.refl _ _⟩
    injection h with h
    injection h with h
    omega
  | some a =>
    have hcells : ∀ j u, (flat xl)[j]? = some u → w.cell? (a.add j) = some u := by
      intro j u hu
      have h0 : 0 < xl.length := by
        rcases Nat.eq_zero_or_pos xl.length with h | h
        · have : xl = [] := List.eq_nil_of_length_eq_zero h
          subst this
          simp [flat] at hu
        · exact h
      obtain ⟨b, o, h, _, hc⟩ := hr h0
      injection h with h
      subst h
      exact flat_cells hc j u hu
    obtain ⟨v', w', h1, h2, h3, _, h5⟩ := run_append_own_at (P := Try.prog) w base 35 35 48 i _ 3 32 Try.underlying35 hi hz hs hb rfl (by decide) (.slice (some ⟨g, 0, none⟩) 0 0) 0 [] hown a xl.length xc (flat xl) (flat_len xl) hcells (flat_one xl) (by unfold maxLen; omega) (by omega) hbase
    rw [Nat.zero_add, List.nil_append] at h2
    obtain ⟨A', c', rfl, hn', hnew⟩ : ∃ A' c', v' = .slice A' xl.length c' ∧ (A' = none → c' = 0) ∧ (∀ g' o, A' = some ⟨g', o, none⟩ → base ≤ g') := by
      rcases h2.2 with ⟨h, h0⟩ | ⟨g', cap, cur, h, hb', _⟩
      · exact ⟨none, 0, by rw [h, h0], (fun _ => rfl), (fun _ _ h => by cases h)⟩
      · refine ⟨_, cap, h, (fun h => by cases h), fun g'' o' he => ?_⟩
        injection he with he
        injection he with he _ _
        omega
    exact ⟨A', c', w', h1, hn', (Row.own h2).2.2, hnew, Kept.grown h3 (fun k hk => by
      simp only [Value.ownBlock, Option.some.injEq] at hk
      simp [hk])⟩
end Go.Proofs.Ytbahmkhnnahddaa
