/- An iterator over a list of terms; the iterator over an expression's terms; a list's copy. Conditions: expressions of at most 80,000 nodes. -/
import Derived.Test.YtlfakhjcpdkaiaaGreatDoorTermM
set_option linter.unusedVariables false
set_option linter.unusedSimpArgs false
namespace Go.Proofs.YtlfakhjcpdkaiaaGreatDoor
open Go.RowKit Go.Deep Go.Shelf
attribute [local go_sem] Oper.semAt_some

mutual
theorem okE_terms : ∀ (e : TEx), okE e → ∀ t ∈ termsE e, okTm t
  | .mk _ t [], h, x, hx => by
    rw [okE] at h
    rw [termsE, List.mem_singleton] at hx
    subst hx
    exact h.1
  | .mk _ _ (k :: ks), h, x, hx => by
    rw [okE, okEs] at h
    rw [termsE, List.mem_append] at hx
    rcases hx with hx | hx
    · exact okE_terms k h.2.1 x hx
    · exact okEs_terms ks h.2.2 x hx
theorem okEs_terms : ∀ (l : List TEx), okEs l → ∀ t ∈ termsEs l, okTm t
  | [], _, x, hx => by rw [termsEs] at hx; cases hx
  | k :: ks, h, x, hx => by
    rw [okEs] at h
    rw [termsEs, List.mem_append] at hx
    rcases hx with hx | hx
    · exact okE_terms k h.1 x hx
    · exact okEs_terms ks h.2 x hx
end
set_option maxRecDepth 100000 in
set_option maxHeartbeats 2000000 in
theorem vals_in (n : Nat) (hn : 1 ≤ n) (l : Nat) (Z : List Nat) (B i bs : Nat) (L : List TTm) (A : Option Addr) (c : Nat) (J Jx : List TTm → World → Prop) (W : World)
    (hbs : W.cell? ⟨bs, 0, none⟩ = some (.slice A L.length c)) (hr : Rg 4 TmC W A L) (hB : B < W.heap.size) (hfl : ∀ k ∈ footL Z B i W, k < W.heap.size ∧ k ≠ bs ∧ ∀ a, A = some a → k ≠ a.block)
    (hJ : ∀ s X Y, J s X → Below X.heap.size X Y → J s Y) (hJx : ∀ s X Y, Jx s X → Below X.heap.size X Y → Jx s Y)
    (hY : ∀ pre x W1, J pre W1 → (pre ++ [x]) <+: L → YieldAt Fence.wide (n - 1) Tryz.prog l #[tmV x] W1 fun e W' =>
      (e = .returned (.bool true) ∧ J (pre ++ [x]) W' ∧ Kf Z B i W1 W') ∨ (e = .returned (.bool false) ∧ Jx (pre ++ [x]) W'))
    (h0 : J [] W) :
    CallsIn Fence.wide n Tryz.prog 81 #[.func (.yield l) #[] #[], .pointer (some ⟨bs, 0, none⟩)] W fun e W' => (∃ v, e = .returned v) ∧
      ((∃ xs, xs = L ∧ J xs W') ∨ (∃ pre, pre <+: L ∧ Jx pre W')) := by
  have HY := Lib.hid hY
  have HJ := Lib.hid hJ
  have HJx := Lib.hid hJx
  have HFL := Lib.hid hfl
  have H0 := Lib.hid h0
  have HR := Lib.hid hr
  have HBs := Lib.hid hbs
  have hlen := hr.1
  have HK0 : Hid (Kf Z B i W W) := Kf.refl _
  clear hY hJ hJx hfl h0 hr
  have hf38 : Fence.wide.fn 81 := trivial
  refine callsIn_of_wp Tryz.func81 rfl hf38 ?_ rfl
  simp only [Tryz.ntmps81, List.size_toArray, List.length_cons, List.length_nil, Nat.reduceAdd, Nat.reduceSub, Array.replicate_succ, Array.replicate_zero, List.push_toArray, List.append_toArray, List.nil_append, List.cons_append]
  have hbl := World.block_lt_of_cell? W _ hbs
  gi_wp2_with fail
  clear hbs hbl
  gi_loopw [7] (fun ix wr => ∃ j : Nat, j ≤ L.length ∧ ix = .int .i64 j ∧ Hid (J (L.take j) wr) ∧ Hid (Kf Z B i W wr)) (fun ix _ => L.length - (intOf ix).toNat)
  case atStart => exact ⟨0, Nat.zero_le _, rfl, H0, HK0⟩
  case round =>
    obtain ⟨j, hj, rfl, HJr, HK⟩ := hrel
    by_cases hlt : j < L.length
    · obtain ⟨g, o, rfl, hgw, c0, c1, c2, c3, hok⟩ := HR.out.at_ hlt
      have hnf : g ∉ footL Z B i W := fun hm => (HFL.out _ hm).2.2 _ rfl rfl
      have c0 := HK.out.cell (p := ⟨g, _, none⟩) c0 hnf
      have c1 := HK.out.cell (p := ⟨g, _, none⟩) c1 hnf
      have c2 := HK.out.cell (p := ⟨g, _, none⟩) c2 hnf
      have c3 := HK.out.cell (p := ⟨g, _, none⟩) c3 hnf
      have hgr : g < wr.heap.size := Nat.lt_of_lt_of_le hgw HK.out.size
      have hBr : B < wr.heap.size := Nat.lt_of_lt_of_le hB HK.out.size
      have HEt : Hid (L.take j ++ [L[j]] = L.take (j + 1)) := by show _ = _; rw [List.take_succ_eq_append_getElem hlt]
      have HEp : Hid (L.take j ++ [L[j]] <+: L) := by show _ <+: _; rw [HEt.out]; exact List.take_prefix _ _
      generalize L[j] = x at *
      have hb3 : Below wr.heap.size wr (wr.alloc (.cells #[.string x.v, .int .i64 x.k, .int .i64 x.n, .string x.s] 41)) := (Below.refl _ _).alloc (Nat.le_refl _) _
      have HO3 : Hid (Own (wr.alloc (.cells #[.string x.v, .int .i64 x.k, .int .i64 x.n, .string x.s] 41)) wr.heap.size 41 [.string x.v, .int .i64 x.k, .int .i64 x.n, .string x.s]) := heap_alloc_new _ _
      have HJ3 := Lib.hid (HJ.out _ _ _ HJr.out hb3)
      have HKW3 := Lib.hid (HK.out.trans (Kf.of_below hb3 hBr))
      obtain ⟨fn, tmps, assign, body, hy, hR⟩ := HY.out (L.take j) x _ HJ3.out HEp.out
      change (Instr.yield l #[.agg #[.string x.v, .int .i64 x.k, .int .i64 x.n, .string x.s]]).run Tryz.prog (wr.alloc (.cells #[.string x.v, .int .i64 x.k, .int .i64 x.n, .string x.s] 41)) = _ at hy
      have HRR := Lib.hid hR
      clear hR hb3 hok
      gi_wp2
      refine HRR.out.mono ?_
      rintro e w4 (⟨rfl, hJ4, hk4⟩ | ⟨rfl, hJx4⟩)
      · have HJ4 := Lib.hid hJ4
        have HK4 := Lib.hid (HKW3.out.trans hk4)
        rw [HEt.out] at HJ4
        clear hJ4 hk4 hy HRR HO3 c0 c1 c2 c3
        gi_wp2
        go_roundw
        case rel => exact ⟨j + 1, by omega, by go_num, HJ4, HK4⟩
        case measure => simp [intOf]; omega
      · have HJ4 := Lib.hid hJx4
        clear hJx4 hy
        gi_wp2
        refine bodyPost_ret (results_none rfl _ _ _) rfl ?_
        exact ⟨⟨_, rfl⟩, .inr ⟨_, HEp.out, HJ4.out⟩⟩
    · have hjk : j = L.length := by omega
      have hJf : Hid (J L wr) := by have h := HJr.out; rw [hjk, List.take_length] at h; exact h
      gi_wp2
      go_end0
      exact ⟨⟨_, rfl⟩, .inl ⟨_, rfl, hJf.out⟩⟩
/-- what a loop over an expression's terms runs over. -/
def TermsAt (w : World) (e : TEx) (r : Ending) (w' : World) : Prop :=
  ∃ bs T tc, r = .returned (.func (.func 81) #[] #[.pointer (some ⟨bs, 0, none⟩)]) ∧ w.heap.size ≤ bs ∧ w'.cell? ⟨bs, 0, none⟩ = some (.slice T (termsE e).length tc) ∧
    Rg 4 TmC w' T (termsE e) ∧ (∀ a, T = some a → w.heap.size ≤ a.block) ∧ Below w.heap.size w w'
set_option maxRecDepth 100000 in
set_option maxHeartbeats 400000 in
theorem Terms_any (e : TEx) (A : Option Addr) (c : Nat) (w : World) (hV : ExV w e A) (hsz : cntE e ≤ 80000) : Calls Tryz.prog 53 #[exV e A c] w (TermsAt w e) := by
  have hb0 : Below w.heap.size w (w.alloc (.cells #[.int .i64 e.op, .string e.t.v, .int .i64 e.t.k, .int .i64 e.t.n, .string e.t.s, .slice A e.kids.length c] 48)) := (Below.refl _ _).alloc (Nat.le_refl _) _
  have C : Hid (Calls Tryz.prog 69 #[exV e A c, .slice none 0 0] (w.alloc (.cells #[.int .i64 e.op, .string e.t.v, .int .i64 e.t.k, .int .i64 e.t.n, .string e.t.s, .slice A e.kids.length c] 48)) (OwnT w 41 ([] ++ termsE e))) :=
    terms_any (cntE e) e A c w _ [] none 0 (Nat.le_refl _) hV (by simp; omega) hb0 (World.ownsRow_nil _ _ _ _) (fun _ => rfl)
  have HOk := Lib.hid (okE_terms e hV.okE)
  have HLn := Lib.hid (terms_len e)
  unfold exV at C ⊢
  rw [List.nil_append] at C
  clear hV
  go_enter Tryz.func53, Tryz.ntmps53
  go_wp2_with fail
  refine C.out.mono ?_
  rintro r w1 ⟨T, tc, rfl, ho, hn, hb⟩
  have HO := Lib.hid ho
  have HB := Lib.hid hb
  clear ho hn hb
  have hV1 : Calls Tryz.prog 68 #[.slice T (termsE e).length tc] w1 fun r w' => r = .returned (.func (.func 81) #[] #[.pointer (some ⟨w1.heap.size, 0, none⟩)]) ∧ w' = w1.alloc (.cells #[.slice T (termsE e).length tc] 42) := by
    go_enter Tryz.func68, Tryz.ntmps68
    go_wp2
    go_ret
    exact ⟨rfl, rfl⟩
  have HV1 := Lib.hid hV1
  clear hV1
  go_wp2_with fail
  refine HV1.out.mono ?_
  rintro r w2 ⟨rfl, rfl⟩
  go_wp2_with fail
  go_ret
  have hrow := Rg.own HO.out HOk.out (Nat.le_trans HLn.out (by omega))
  refine ⟨w1.heap.size, T, tc, rfl, HB.out.size, by simp, hrow.tm (Pers.of ((Below.refl _ _).alloc (Nat.le_refl _) _)), ?_, HB.out.alloc HB.out.size _⟩
  intro a ha
  subst ha
  rcases HO.out.2 with ⟨h1, _⟩ | ⟨g, cap, cur, h1, hg, _⟩
  · cases h1
  · injection h1 with h1 _ _
    injection h1 with h1
    rw [h1]
    exact hg
set_option maxRecDepth 100000 in
set_option maxHeartbeats 400000 in
theorem Clone_any (A : Option Addr) (c : Nat) (l : List TTm) (w0 w : World) (hV : Rg 4 TmC w A l) (hsz : l.length ≤ 90000) (hB : Below w0.heap.size w0 w) :
    Calls Tryz.prog 28 #[.slice A l.length c] w (OwnT w0 41 l) := by
  cases A with
  | none =>
    have hl0 : l = [] := by
      cases l with
      | nil => rfl
      | cons x r => obtain ⟨b, o, h, _⟩ := hV.2 (by simp); cases h
    subst hl0
    have kq : ∀ W, (binOp .eql 42 (.slice none 0 c) (.slice none 0 0)).run Tryz.prog W = .ok (.bool true) W := fun W => by kernel_rfl
    have HB := Lib.hid hB
    clear hV hB
    show Calls _ _ #[.slice none 0 c] _ _
    go_enter Tryz.func28, Tryz.ntmps28
    go_wp2_with fail
    go_ret
    exact ⟨none, 0, rfl, World.ownsRow_nil _ _ _ _, fun _ => rfl, HB.out⟩
  | some ad =>
    have kq : ∀ W, (binOp .eql 42 (.slice (some ad) l.length c) (.slice none 0 0)).run Tryz.prog W = .ok (.bool false) W := fun W => by kernel_rfl
    have HB := Lib.hid hB
    have HV := Lib.hid (hV.tm (Pers.of ((Below.refl w.heap.size w).alloc (o := .cells #[] 41) (Nat.le_refl _))))
    have hs0 := hB.size
    have hown : Hid ((w.alloc (.cells #[] 41)).ownsRow w0.heap.size 41 4 (.slice (some ⟨w.heap.size, 0, none⟩) 0 0) 0 (flatM [])) :=
      ⟨rfl, .inr ⟨w.heap.size, 0, #[], rfl, hs0, heap_alloc_new w _, Nat.le_refl _, Nat.zero_le _, rfl, rfl⟩⟩
    clear hV hB
    go_enter Tryz.func28, Tryz.ntmps28
    go_wp2_with (at_builtin; refine appTm _ rfl 42 41 Tryz.underlying42 infoTm (.tmp 5) (.tmp 6) rfl w0.heap.size [] _ rfl hown.out (some ad) c l rfl (fun h => by cases h) HV.out (by simp; omega) (by simp; omega) ?_; intro A' c' w2 ho hn' hb2)
    have hbf : Below w0.heap.size w0 w2 := HB.out.trans (((Below.refl _ _).alloc hs0 _).trans hb2)
    simp only [List.length_nil, Nat.zero_add, List.nil_append] at ho
    go_ret
    exact ⟨A', c', by simp, ho, hn', hbf⟩
end Go.Proofs.YtlfakhjcpdkaiaaGreatDoor
