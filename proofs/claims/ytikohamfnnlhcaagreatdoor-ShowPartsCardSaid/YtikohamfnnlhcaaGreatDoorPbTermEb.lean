/- The terms of an expression behind others, by the document. Conditions: lists of at most 100,000 terms. An expression copied into new memory: what is kept of it, and where it lies. Conditions: none. The law's copy of an expression in the document's form. Conditions: at most 30,000 nodes. The document's sole token of a text. Conditions: texts of at most 4,000 bytes. -/
import Derived.Test.YtikohamfnnlhcaaGreatDoorPbTermM
import Derived.Test.YtikohamfnnlhcaaGreatDoorPbTermLp
import Derived.Test.YtikohamfnnlhcaaGreatDoorSbD
import Derived.Maps.AppendAt
import Derived.Laws.AppendOwnNone
import Derived.OwnWalk
import Derived.Deep.RegionLaw
set_option linter.unusedVariables false
set_option linter.unusedSimpArgs false
namespace Go.Proofs.YtikohamfnnlhcaaGreatDoor
open Go.RowKit Go.Deep Go.Shelf

end Go.Proofs.YtikohamfnnlhcaaGreatDoor

set_option linter.unusedVariables false
set_option linter.unusedSimpArgs false
namespace Go.Proofs.YtikohamfnnlhcaaGreatDoor
open Go.RowKit Go.Deep Go.Shelf

/-- an expression in memory, in such blocks alone. -/
inductive ExP (w : World) (P : Nat → Prop) : Nat → Nat → TEx → Prop where
  | mk {b o : Nat} {op : Int} {t : TTm} {ks : List TEx} {A : Option Addr} {c : Nat} (bA oA : Nat) (hb : P b) (hbw : b < w.heap.size) (h0 : w.cell? ⟨b, o, none⟩ = some (.int .i64 op)) (h1 : TmC w b (o + 1) t) (h5 : w.cell? ⟨b, o + 5, none⟩ = some (.slice A ks.length c))
      (hl : ks.length ≤ 140737488351232) (hA : 0 < ks.length → A = some ⟨bA, oA, none⟩ ∧ bA < w.heap.size) (hk : ∀ i y, ks[i]? = some y → ExP w P bA (oA + i * 6) y) : ExP w P b o (.mk op t ks)
theorem ExP.exC {w : World} {P : Nat → Prop} {b o : Nat} {e : TEx} (h : ExP w P b o e) : ExC w b o e := by
  induction h with
  | mk bA oA hb hbw h0 h1 h5 hl hA hk ih => exact .mk bA oA h0 h1 h5 hl hA ih
theorem ExP.keep {w w' : World} {P P' : Nat → Prop} (hk : ∀ k, k < w.heap.size → P k → w'.heap[k]? = w.heap[k]?) (hs : w.heap.size ≤ w'.heap.size) (hP : ∀ k, k < w.heap.size → P k → P' k) {b o : Nat} {e : TEx} (h : ExP w P b o e) : ExP w' P' b o e := by
  induction h with
  | mk bA oA hb hbw h0 h1 h5 hl hA _ ih =>
    have hc : ∀ i v, w.cell? ⟨_, i, none⟩ = some v → w'.cell? ⟨_, i, none⟩ = some v := fun i v hv => (World.cell?_of_block (hk _ hbw hb)).trans hv
    exact .mk bA oA (hP _ hbw hb) (Nat.lt_of_lt_of_le hbw hs) (hc _ _ h0) ⟨hc _ _ h1.1, hc _ _ h1.2.1, hc _ _ h1.2.2.1, hc _ _ h1.2.2.2.1, h1.2.2.2.2⟩ (hc _ _ h5) hl (fun h => ⟨(hA h).1, Nat.lt_of_lt_of_le (hA h).2 hs⟩) ih
/-- an expression's value, its children in such blocks alone. -/
structure ExVP (w : World) (P : Nat → Prop) (e : TEx) (A : Option Addr) : Prop where
  ok : okTm e.t
  row : Rg 6 (fun w => ExP w P) w A e.kids
theorem ExVP.exV {w : World} {P : Nat → Prop} {e : TEx} {A : Option Addr} (h : ExVP w P e A) : ExV w e A :=
  ⟨h.ok, h.row.1, fun h0 => by obtain ⟨b, o, h1, h2, h3⟩ := h.row.2 h0; exact ⟨b, o, h1, h2, fun i y hy => (h3 i y hy).exC⟩⟩
theorem ExVP.keep {w w' : World} {P P' : Nat → Prop} (hk : ∀ k, k < w.heap.size → P k → w'.heap[k]? = w.heap[k]?) (hs : w.heap.size ≤ w'.heap.size) (hP : ∀ k, k < w.heap.size → P k → P' k) {e : TEx} {A : Option Addr} (h : ExVP w P e A) : ExVP w' P' e A :=
  ⟨h.ok, h.row.1, fun h0 => by obtain ⟨b, o, h1, h2, h3⟩ := h.row.2 h0; exact ⟨b, o, h1, Nat.lt_of_lt_of_le h2 hs, fun i y hy => (h3 i y hy).keep hk hs hP⟩⟩

/-- an expression's cells, its children at an address. -/
def exCl (p : TEx × Option Addr × Nat) : List Value := [.int .i64 p.1.op, .string p.1.t.v, .int .i64 p.1.t.k, .int .i64 p.1.t.n, .string p.1.t.s, .slice p.2.1 p.1.kids.length p.2.2]
def flatX : List (TEx × Option Addr × Nat) → List Value
  | [] => []
  | p :: r => exCl p ++ flatX r
theorem flatX_snoc (l : List (TEx × Option Addr × Nat)) (p : TEx × Option Addr × Nat) : flatX (l ++ [p]) = flatX l ++ exCl p := by
  induction l with
  | nil => simp [flatX]
  | cons x r ih => simp only [List.cons_append, flatX, ih, List.append_assoc]
theorem flatX_at : ∀ (l : List (TEx × Option Addr × Nat)) (i : Nat) (p : TEx × Option Addr × Nat), l[i]? = some p → ∀ k, k < 6 → (flatX l)[i * 6 + k]? = (exCl p)[k]?
  | q :: r, 0, p, h, k, hk => by
    simp only [List.getElem?_cons_zero, Option.some.injEq] at h
    subst h
    simp only [Nat.zero_mul, Nat.zero_add, flatX]
    exact List.getElem?_append_left (by simp only [exCl, List.length_cons, List.length_nil]; omega)
  | q :: r, i + 1, p, h, k, hk => by
    simp only [List.getElem?_cons_succ] at h
    have ih := flatX_at r i p h k hk
    rw [← ih]
    simp only [flatX]
    rw [List.getElem?_append_right (by simp only [exCl, List.length_cons, List.length_nil]; omega)]
    congr 1
    simp only [exCl, List.length_cons, List.length_nil]
    omega
theorem infoRex : (Tryz.prog.info? 75).map (fun i => (i.zero, i.size, i.bytes)) = some (some (.agg #[.int .i64 0, .string noText, .int .i64 0, .int .i64 0, .string noText, .slice none 0 0]), 6, 80) := by kernel_rfl
set_option maxRecDepth 100000 in
/-- 'append(own, e)', by its run. -/
theorem appX_run (w : World) (base : Nat) (v : Value) (L : List (TEx × Option Addr × Nat)) (hown : w.ownsRow base 75 6 v L.length (flatX L)) (p : TEx × Option Addr × Nat) (b : Nat) (hO : Own w b 75 (exCl p)) (hlen : L.length ≤ 100000) (hbase : base ≤ w.heap.size) :
    ∃ v' w', (Builtin.append_ #[73, 73] 73 #[v, .slice (some ⟨b, 0, none⟩) 1 1]).run Tryz.prog w = .ok v' w' ∧ w'.ownsRow base 75 6 v' (L ++ [p]).length (flatX (L ++ [p])) ∧ w.grownBy w' v.ownBlock ∧ (v'.ownBlock = v.ownBlock ∨ v'.ownBlock = some w.heap.size) := by
  obtain ⟨i, hi, hz, hs1, hb⟩ := info_parts infoRex
  have hcells : ∀ j u, (exCl p)[j]? = some u → w.cell? ((⟨b, 0, none⟩ : Addr).add j) = some u := fun j u hu => by
    rw [Addr.add_lit, Nat.zero_add, hO.cell]
    exact hu
  obtain ⟨v', w', h1, h2, h3, _, h5⟩ := run_append_own_at (P := Tryz.prog) w base 73 73 75 i _ 6 80 Tryz.underlying73 hi hz hs1 hb rfl (by decide) v L.length (flatX L) hown ⟨b, 0, none⟩ 1 1 (exCl p) rfl hcells (by simp [exCl, Value.oneCell']) (by unfold maxLen; omega) (by omega) hbase
  refine ⟨v', w', h1, ?_, h3, h5⟩
  rw [List.length_append, flatX_snoc]
  exact h2
end Go.Proofs.YtikohamfnnlhcaaGreatDoor

set_option linter.unusedVariables false
set_option linter.unusedSimpArgs false
namespace Go.Proofs.YtikohamfnnlhcaaGreatDoor
open Go.RowKit Go.Deep Go.Shelf

/-- what a copy comes to. -/
def GotX (w : World) (e : TEx) (r : Ending) (w' : World) : Prop := ∃ A c, r = .returned (exV e A c) ∧ ExVP w' (fun k => w.heap.size ≤ k) e A ∧ Below w.heap.size w w'
/-- a round's state: the copy so far. -/
structure XI (w : World) (e : TEx) (b2 b3 j : Nat) (vv : Value) (L : List (TEx × Option Addr × Nat)) (W : World) : Prop where
  own : Own W b3 75 [.int .i64 e.op, .string e.t.v, .int .i64 e.t.k, .int .i64 e.t.n, .string e.t.s, vv]
  res : Own W b2 75 [.int .i64 0, .string noText, .int .i64 0, .int .i64 0, .string noText, .slice none 0 0]
  row : W.ownsRow (b3 + 1) 75 6 vv L.length (flatX L)
  len : L.length = j
  eqs : L.map (·.1) = e.kids.take j
  kids : ∀ p ∈ L, ExVP W (fun k => b3 + 1 ≤ k ∧ some k ≠ vv.ownBlock) p.1 p.2.1
  bel : Below w.heap.size w W
  lo : w.heap.size ≤ b2
  lt : b2 < b3
theorem step_run {P : Program} {ops : Array Oper} {o : Oper} {a : Act} {w : World} {K : Act → World → Prop} {Q : Exit → Act → World → Prop} {E : Prop}
    (hg : o.guard = none) (s x : Operand) (t : TypeId) (hop : o.op = Op.call { callee := Callee.builtin Builtin.append, args := #[s, x], argTypes := #[t, t] }) (hty : o.type = t)
    (vs vx : Value) (hs : a.eval s = vs) (hx : a.eval x = vx) {v' : Value} {w' : World} (hrun : (Builtin.append_ #[t, t] t #[vs, vx]).run P w = .ok v' w') (hK : K (a.put o.dst v') w') :
    if Region.wanted o (yielded ops a.tmps) = true then Oper.wp P o a w K Q else E := by
  have hw : Region.wanted o (yielded ops a.tmps) = true := by simp [Region.wanted, hg]
  rw [if_pos hw]
  unfold Oper.wp
  simp [execOp, hop, hty, resolve, invoke, builtin, hs, hx, hrun, Result.andThen]
  exact hK
theorem step_call {P : Program} {ops : Array Oper} {o : Oper} {a : Act} {w : World} {K : Act → World → Prop} {Q : Exit → Act → World → Prop} {E : Prop}
    (hg : o.guard = none) {f : FuncId} {args : Array Value} (h : (execOp a.eval o).run P w = .ok (.enter f args) w) (hc : Calls P f args w fun e w' => ∃ v, e = .returned v ∧ K (a.put o.dst v) w') :
    if Region.wanted o (yielded ops a.tmps) = true then Oper.wp P o a w K Q else E := by
  have hw : Region.wanted o (yielded ops a.tmps) = true := by simp [Region.wanted, hg]
  rw [if_pos hw]
  unfold Oper.wp
  rw [h]
  refine hc.mono ?_
  rintro e w' ⟨v, rfl, hk⟩
  exact hk
theorem owns_off {w w' : World} {S : List Nat} {base n k : Nat} {e : TypeId} {v : Value} {xs : List Value} (h : w.ownsRow base e k v n xs) (hk : Kept S w w') (hS : ∀ j ∈ S, j < base) : w'.ownsRow base e k v n xs :=
  ⟨h.1, h.2.imp id fun ⟨g, cap, cur, h1, h2, h3, h4⟩ => ⟨g, cap, cur, h1, h2, (hk.block g (Array.getElem?_eq_some_iff.1 h3).1 (fun hm => by have := hS g hm; omega)).trans h3, h4⟩⟩
theorem XI.step {w : World} {e : TEx} {b2 b3 j : Nat} {vv : Value} {L : List (TEx × Option Addr × Nat)} {wr wx w3 w5 : World} (h : XI w e b2 b3 j vv L wr) (hlt : j < e.kids.length) {A2 : Option Addr} {c2 : Nat} {v' : Value} {tmp : Obj}
    (hbx : Below wr.heap.size wr wx) (hc : ExVP w3 (fun k => wx.heap.size ≤ k) e.kids[j] A2) (hb3 : Below wx.heap.size wx w3)
    (ho : w5.ownsRow (b3 + 1) 75 6 v' (L ++ [(e.kids[j], A2, c2)]).length (flatX (L ++ [(e.kids[j], A2, c2)]))) (hg : (w3.alloc tmp).grownBy w5 vv.ownBlock) (hat : v'.ownBlock = vv.ownBlock ∨ v'.ownBlock = some (w3.alloc tmp).heap.size) :
    XI w e b2 b3 (j + 1) v' (L ++ [(e.kids[j], A2, c2)]) (w5.setCell ⟨b3, 5, none⟩ v') := by
  have hb : Below wr.heap.size wr (w3.alloc tmp) := (hbx.trans (hb3.mono hbx.size)).alloc (Nat.le_trans hbx.size hb3.size) _
  have k5 : Kept vv.ownBlock.toList wr w5 := (Kept.of vv.ownBlock.toList hb).trans (Kept.grown hg (fun k hk => by rw [hk]; simp)) (Sub.refl _ _)
  have s3 : Kept [b3] w5 (w5.setCell ⟨b3, 5, none⟩ v') := (Kept.refl [b3] w5).setCell (.inl (by simp)) _
  have hown : ∀ k, vv.ownBlock = some k → b3 + 1 ≤ k ∧ k < wr.heap.size := h.row.lt
  have hn3 : b3 ∉ vv.ownBlock.toList := fun hm => by
    have := (hown b3 (by simpa using hm)).1
    omega
  have hn2 : b2 ∉ vv.ownBlock.toList := fun hm => by
    have h1 := (hown b2 (by simpa using hm)).1
    have h2 := h.lt
    omega
  have hO5 := k5.own h.own hn3
  have hsz1 := hb.size
  have hsz2 := hg.size
  have hsx := hbx.size
  have hs3 := hb3.size
  have hsa : (w3.alloc tmp).heap.size = w3.heap.size + 1 := by simp
  have hlt2 := h.lt
  refine ⟨hO5.set 5 v', s3.own (k5.own h.res hn2) (by simp only [List.mem_singleton]; omega), owns_off ho s3 (fun k hk => by simp only [List.mem_singleton] at hk; omega), by simp [h.len], ?_, fun p hp => ?_, ?_, h.lo, h.lt⟩
  · rw [List.map_append, h.eqs, List.map_singleton, List.take_append_getElem hlt]
  · rcases List.mem_append.1 hp with hp | hp
    · refine (h.kids p hp).keep (fun k hk hP => ?_) (Nat.le_trans k5.size s3.size) fun k hk hP => ⟨hP.1, fun e => ?_⟩
      · exact (s3.block k (Nat.lt_of_lt_of_le hk k5.size) (by simp only [List.mem_singleton]; omega)).trans (k5.block k hk (fun hm => hP.2 (by simpa using (Option.mem_toList.1 hm).symm)))
      · rcases hat with h1 | h1
        · rw [h1] at e; exact hP.2 e
        · rw [h1] at e
          injection e with e
          omega
    · simp only [List.mem_singleton] at hp
      subst hp
      refine hc.keep (fun k hk hP => ?_) ?_ fun k hk hP => ⟨by have := h.own.lt; omega, fun e => ?_⟩
      · have h1 : (w3.alloc tmp).heap[k]? = w3.heap[k]? := ((Below.refl w3.heap.size w3).alloc (Nat.le_refl _) tmp).block k hk
        have h2 : w5.heap[k]? = (w3.alloc tmp).heap[k]? := hg.block k (by omega) (fun e => by have := (hown k e.symm).2; omega)
        exact (s3.block k (by omega) (by simp only [List.mem_singleton]; have := h.own.lt; omega)).trans (h2.trans h1)
      · exact Nat.le_trans (by omega) s3.size
      · rcases hat with h1 | h1
        · rw [h1] at e; have := (hown k e.symm).2; omega
        · rw [h1] at e
          injection e with e
          omega
  · have hw := h.bel
    have hsw := hw.size
    have hlo := h.lo
    refine hw.trans ((k5.below (B := w.heap.size) hsw (fun k hk => by have := (hown k (by simpa using hk)).1; omega)).trans (s3.below (B := w.heap.size) (by have := k5.size; omega) (fun k hk => by simp only [List.mem_singleton] at hk; omega)))
theorem ExP.shut {w : World} {P : Nat → Prop} {b o c : Nat} {e : TEx} {A : Option Addr} (hb : P b) (hbw : b < w.heap.size) (h0 : w.cell? ⟨b, o, none⟩ = some (.int .i64 e.op)) (h1 : w.cell? ⟨b, o + 1, none⟩ = some (.string e.t.v)) (h2 : w.cell? ⟨b, o + 2, none⟩ = some (.int .i64 e.t.k))
    (h3 : w.cell? ⟨b, o + 3, none⟩ = some (.int .i64 e.t.n)) (h4 : w.cell? ⟨b, o + 4, none⟩ = some (.string e.t.s)) (h5 : w.cell? ⟨b, o + 5, none⟩ = some (.slice A e.kids.length c)) (hV : ExVP w P e A) : ExP w P b o e := by
  cases e with
  | mk op t ks =>
    obtain ⟨ho, hl, hr⟩ := hV
    by_cases hk : 0 < ks.length
    · obtain ⟨b', o', e1, e2, e3⟩ := hr hk
      exact .mk b' o' hb hbw h0 ⟨h1, h2, h3, h4, ho⟩ h5 hl (fun _ => ⟨e1, e2⟩) e3
    · refine .mk 0 0 hb hbw h0 ⟨h1, h2, h3, h4, ho⟩ h5 hl (fun h => absurd h hk) fun i y hy => ?_
      have : ks = [] := List.eq_nil_of_length_eq_zero (by omega)
      subst this
      cases hy
theorem XI.done {w : World} {e : TEx} {b2 b3 j : Nat} {A3 : Option Addr} {c3 : Nat} {L : List (TEx × Option Addr × Nat)} {wr W : World} (h : XI w e b2 b3 j (.slice A3 L.length c3) L wr) (hj : j = e.kids.length) (hl : e.kids.length ≤ 140737488351232) (ho : okTm e.t) (hk : Kept [b2] wr W) :
    L.length = e.kids.length ∧ ExVP W (fun k => w.heap.size ≤ k) e A3 ∧ Below w.heap.size w W := by
  have hlo := h.lo
  have hlt := h.lt
  have hlen : L.length = e.kids.length := h.len.trans hj
  have heq : L.map (·.1) = e.kids := by rw [h.eqs, hj, List.take_length]
  refine ⟨hlen, ⟨ho, hl, fun h0 => ?_⟩, h.bel.trans (hk.below h.bel.size (fun k hk => by simp only [List.mem_singleton] at hk; omega))⟩
  rcases h.row.2 with ⟨_, h2⟩ | ⟨g, cap, cur, h1, hg, hc, hcap, _, hcs, htake⟩
  · omega
  · injection h1 with h1 _ _
    subst h1
    have hgw : g < wr.heap.size := (Array.getElem?_eq_some_iff.1 hc).1
    have hgn : g ∉ [b2] := by simp only [List.mem_singleton]; omega
    refine ⟨g, 0, rfl, Nat.lt_of_lt_of_le hgw hk.size, fun i y hy => ?_⟩
    rw [← heq, List.getElem?_map] at hy
    cases hp : L[i]? with
    | none => rw [hp] at hy; cases hy
    | some p =>
      rw [hp] at hy
      simp only [Option.map_some, Option.some.injEq] at hy
      subst hy
      have hil : i < L.length := (List.getElem?_eq_some_iff.1 hp).1
      have hcell : ∀ k, k < 6 → W.cell? ⟨g, 0 + i * 6 + k, none⟩ = (exCl p)[k]? := fun k hk6 => by
        rw [hk.cell (p := ⟨g, _, none⟩) hgw hgn, cell_of_row wr g _ cur _ (0, 0) hc, ← flatX_at L i p hp k hk6, ← htake, List.getElem?_take, if_pos (by omega), Nat.zero_add]
        simp
      have hpm : p ∈ L := List.mem_of_getElem? hp
      have hv := (h.kids p hpm).keep (w' := W) (P' := fun k => w.heap.size ≤ k) (fun k hkw hP => hk.block k hkw (by simp only [List.mem_singleton]; omega)) hk.size (fun k _ hP => by have := hP.1; omega)
      exact ExP.shut (by omega) (Nat.lt_of_lt_of_le hgw hk.size) (hcell 0 (by omega)) (hcell 1 (by omega)) (hcell 2 (by omega)) (hcell 3 (by omega)) (hcell 4 (by omega)) (hcell 5 (by omega)) hv
set_option maxRecDepth 100000 in
set_option maxHeartbeats 1000000 in
theorem exp_copy (n : Nat) : ∀ (e : TEx) (A : Option Addr) (c : Nat) (w : World), cntE e ≤ n → cntE e ≤ 30000 → ExV w e A →
    Calls Tryz.prog 17 #[exV e A c] w (GotX w e) := by
  induction n with
  | zero => intro e _ _ _ h; have := cntE_pos e; omega
  | succ n ih =>
    intro e A c w hn hsz hV
    have HV := Lib.hid hV
    have hlen := hV.row.1
    have HK : Hid (∀ k (hk : k < e.kids.length), cntE e.kids[k] ≤ n) := fun k hk => by have := cntE_kid hk; omega
    have hcs : e.kids.length ≤ 30000 := by
      have h := cntEs_len e.kids; have h2 : cntEs e.kids ≤ cntE e := by (cases e with | mk o t ks => (show cntEs ks ≤ cntE (.mk o t ks); rw [cntE]; omega))
      omega
    have HO := Lib.hid hV.ok
    have HX0 : Hid (XI w e (w.heap.size + 1) (w.heap.size + 1 + 1) 0 (.slice none 0 0) [] (((w.alloc (.cells #[.int .i64 e.op, .string e.t.v, .int .i64 e.t.k, .int .i64 e.t.n, .string e.t.s, .slice A e.kids.length c] 61)).alloc (.cells #[.int .i64 0, .string ⟨#[]⟩, .int .i64 0, .int .i64 0, .string ⟨#[]⟩, .slice none 0 0] 75)).alloc (.cells #[.int .i64 e.op, .string e.t.v, .int .i64 e.t.k, .int .i64 e.t.n, .string e.t.s, .slice none 0 0] 75))) := by
      have o2 := heap_alloc_new (w.alloc (.cells #[.int .i64 e.op, .string e.t.v, .int .i64 e.t.k, .int .i64 e.t.n, .string e.t.s, .slice A e.kids.length c] 61)) (.cells #[.int .i64 0, .string ⟨#[]⟩, .int .i64 0, .int .i64 0, .string ⟨#[]⟩, .slice none 0 0] 75)
      have o3 := heap_alloc_new ((w.alloc (.cells #[.int .i64 e.op, .string e.t.v, .int .i64 e.t.k, .int .i64 e.t.n, .string e.t.s, .slice A e.kids.length c] 61)).alloc (.cells #[.int .i64 0, .string ⟨#[]⟩, .int .i64 0, .int .i64 0, .string ⟨#[]⟩, .slice none 0 0] 75)) (.cells #[.int .i64 e.op, .string e.t.v, .int .i64 e.t.k, .int .i64 e.t.n, .string e.t.s, .slice none 0 0] 75)
      simp only [World.size_alloc] at o2 o3
      have o2' : Own ((w.alloc (.cells #[.int .i64 e.op, .string e.t.v, .int .i64 e.t.k, .int .i64 e.t.n, .string e.t.s, .slice A e.kids.length c] 61)).alloc (.cells #[.int .i64 0, .string ⟨#[]⟩, .int .i64 0, .int .i64 0, .string ⟨#[]⟩, .slice none 0 0] 75)) (w.heap.size + 1) 75 [.int .i64 0, .string noText, .int .i64 0, .int .i64 0, .string noText, .slice none 0 0] := o2
      have o3' : Own (((w.alloc (.cells #[.int .i64 e.op, .string e.t.v, .int .i64 e.t.k, .int .i64 e.t.n, .string e.t.s, .slice A e.kids.length c] 61)).alloc (.cells #[.int .i64 0, .string ⟨#[]⟩, .int .i64 0, .int .i64 0, .string ⟨#[]⟩, .slice none 0 0] 75)).alloc (.cells #[.int .i64 e.op, .string e.t.v, .int .i64 e.t.k, .int .i64 e.t.n, .string e.t.s, .slice none 0 0] 75)) (w.heap.size + 1 + 1) 75 [.int .i64 e.op, .string e.t.v, .int .i64 e.t.k, .int .i64 e.t.n, .string e.t.s, .slice none 0 0] := o3
      exact ⟨o3', o2'.alloc _, World.ownsRow_nil _ _ _ _, rfl, rfl, (fun p hp => by cases hp), (((Below.refl _ _).alloc (Nat.le_refl _) _).alloc (by simp) _).alloc (by simp; omega) _, Nat.le_succ _, Nat.lt_succ_self _⟩
    obtain ⟨W, hW⟩ : ∃ W, W = (((w.alloc (.cells #[.int .i64 e.op, .string e.t.v, .int .i64 e.t.k, .int .i64 e.t.n, .string e.t.s, .slice A e.kids.length c] 61)).alloc (.cells #[.int .i64 0, .string ⟨#[]⟩, .int .i64 0, .int .i64 0, .string ⟨#[]⟩, .slice none 0 0] 75)).alloc (.cells #[.int .i64 e.op, .string e.t.v, .int .i64 e.t.k, .int .i64 e.t.n, .string e.t.s, .slice none 0 0] 75)) := ⟨_, rfl⟩
    obtain ⟨b2, hb2⟩ : ∃ b, b = w.heap.size + 1 := ⟨_, rfl⟩
    obtain ⟨b3, hb3⟩ : ∃ b, b = w.heap.size + 1 + 1 := ⟨_, rfl⟩
    rw [← hW, ← hb3, ← hb2] at HX0
    have HW := Lib.hid hW
    have HB2 := Lib.hid hb2
    have HB3 := Lib.hid hb3
    clear hW hb2 hb3
    unfold exV
    clear hn
    go_enter Tryz.func17, Tryz.ntmps17
    go_wp2_with fail
    rw [← HW.out, ← HB3.out, ← HB2.out]
    go_loopw [14] (fun i wr => ∃ (j : Nat) (vv : Value) (L : List (TEx × Option Addr × Nat)), j ≤ e.kids.length ∧ i = .int .i64 j ∧ Hid (XI w e b2 b3 j vv L wr)) (fun i _ => e.kids.length - (intOf i).toNat)
    case atStart => exact ⟨0, _, _, Nat.zero_le _, rfl, HX0⟩
    case round =>
      obtain ⟨j, vv, L, hj, rfl, HX⟩ := hrel
      have x5 := HX.out.own.cell 5
      have xq := HX.out.own.lt
      simp only [List.getElem?_cons_zero, List.getElem?_cons_succ] at x5
      have HL : Hid (L.length = j) := HX.out.len
      by_cases hlt : j < e.kids.length
      · obtain ⟨b, o, rfl, hbw, hc⟩ := HV.out.row.at_ hlt
        obtain ⟨A1, c1, d0, d1, d2, d3, d4, d5, hkv⟩ := hc.open_
        have hbel := HX.out.bel
        have d0 := (hbel.cell (p := ⟨b, _, none⟩) hbw).trans d0
        have d1 := (hbel.cell (p := ⟨b, _, none⟩) hbw).trans d1
        have d2 := (hbel.cell (p := ⟨b, _, none⟩) hbw).trans d2
        have d3 := (hbel.cell (p := ⟨b, _, none⟩) hbw).trans d3
        have d4 := (hbel.cell (p := ⟨b, _, none⟩) hbw).trans d4
        have d5 := (hbel.cell (p := ⟨b, _, none⟩) hbw).trans d5
        have hki := HK.out j hlt
        have hks : cntE e.kids[j] ≤ 30000 := by have := cntE_kid hlt; omega
        have HS : Hid (∀ (wx w3 w5 : World) (A2 : Option Addr) (c2 : Nat) (v' : Value) (tmp : Obj), Below wr.heap.size wr wx → ExVP w3 (fun k => wx.heap.size ≤ k) e.kids[j] A2 → Below wx.heap.size wx w3 →
            w5.ownsRow (b3 + 1) 75 6 v' (L ++ [(e.kids[j], A2, c2)]).length (flatX (L ++ [(e.kids[j], A2, c2)])) → (w3.alloc tmp).grownBy w5 vv.ownBlock → (v'.ownBlock = vv.ownBlock ∨ v'.ownBlock = some (w3.alloc tmp).heap.size) →
            XI w e b2 b3 (j + 1) v' (L ++ [(e.kids[j], A2, c2)]) (w5.setCell ⟨b3, 5, none⟩ v')) := fun wx w3 w5 A2 c2 v' tmp h1 h2 h3 h4 h5 h6 => HX.out.step hlt h1 h2 h3 h4 h5 h6
        have HKV := Lib.hid (hkv.below hbel)
        have HRw := Lib.hid HX.out.row
        have HOw := Lib.hid HX.out.own
        have HLo : Hid (b3 + 1 ≤ wr.heap.size) := xq
        clear hc hkv hbel
        generalize e.kids[j] = y at *
        go_wp2_with fail
        go_region_law (first
          | (refine step_run (o := ⟨some 23, _, _, _, _, _⟩) rfl (.tmp 19) (.tmp 22) 73 rfl rfl _ _ rfl rfl hrun ?_)
          | (have hbx : Below wr.heap.size wr (wr.alloc (.cells #[.int .i64 y.op, .string y.t.v, .int .i64 y.t.k, .int .i64 y.t.n, .string y.t.s, .slice A1 y.kids.length c1] 61)).drew := ((Below.refl _ _).alloc (Nat.le_refl _) _).drew
             refine step_call (o := ⟨some 21, _, _, _, _, _⟩) rfl (f := 17) (args := #[exV y A1 c1]) (by simp only [execOp, Act.eval, List.map_toArray, List.map_cons, List.map_nil]; kernel_rfl) ((ih y A1 c1 _ hki hks (HKV.out.below hbx)).mono ?_)
             rintro r w3 ⟨A2, c2, rfl, hE, hb3⟩
             refine ⟨_, rfl, ?_⟩
             have hb13 : Below wr.heap.size wr w3 := hbx.trans (hb3.mono hbx.size)
             obtain ⟨v', w5, hrun, ho, hg, hat⟩ := appX_run (w3.alloc (.cells #[.int .i64 y.op, .string y.t.v, .int .i64 y.t.k, .int .i64 y.t.n, .string y.t.s, .slice A2 y.kids.length c2] 75)) (b3 + 1) vv L ((own_below HRw.out hb13).alloc _) (y, A2, c2) w3.heap.size (heap_alloc_new _ _) (by have := HL.out; omega) (by have h1 := HLo.out; have h2 := hb13.size; simp; omega)
             obtain ⟨A3, c3, hv3, _, _⟩ := own_valueM ho
             subst hv3
             have HN := Lib.hid (HS.out _ w3 w5 A2 c2 _ _ hbx hE hb3 ho hg hat)
             simp only [List.length_append, List.length_cons, List.length_nil, Nat.zero_add] at HN
             have h3 := HOw.out.below hb13
             have z5 := h3.cell 5
             have zq := h3.lt
             have h5 : Own w5 b3 75 [.int .i64 e.op, .string e.t.v, .int .i64 e.t.k, .int .i64 e.t.n, .string e.t.s, vv] := (hg.block b3 (by simp; omega) (fun e => by have h1 := HRw.out.lt b3 e.symm; omega)).trans (h3.alloc _)
             have y5 := h5.cell 5
             have yf := h5.frozen 5
             have yq := h5.lt
             simp only [List.getElem?_cons_zero, List.getElem?_cons_succ] at z5 y5
             clear hE hb3 ho hg hat h3 h5 hb13 hbx))
        all_goals
          go_wp2
          go_roundw
          case rel => exact ⟨j + 1, _, _, by omega, by go_num, HN⟩
          case measure => simp [intOf]; omega
      · have hjk : j = e.kids.length := by omega
        obtain ⟨A3, c3, hv3, _, _⟩ := own_valueM HX.out.row
        subst hv3
        have HOo := Lib.hid HX.out.own
        have HRs := Lib.hid HX.out.res
        have hinf : (Tryz.prog.info? 75).map (·.size) = some 6 := by kernel_rfl
        clear x5
        go_wp2_with (first
          | (refine wpList_load_row (o := ⟨some 26, _, _, _, _, _⟩) rfl 75 _ rfl b3 rfl 75 #[.int .i64 e.op, .string e.t.v, .int .i64 e.t.k, .int .i64 e.t.n, .string e.t.s, .slice A3 L.length c3] (0, 0) _ HOo.out Tryz.underlying75 rfl hinf ?_)
          | (refine wpList_store_row (o := ⟨none, .store 75 _ _, _, _, _, _⟩) rfl 75 _ _ rfl b2 #[.int .i64 e.op, .string e.t.v, .int .i64 e.t.k, .int .i64 e.t.n, .string e.t.s, .slice A3 L.length c3] rfl rfl 75 _ HRs.out hinf rfl (by simp [Value.oneCell']) ?_))
        have hrow := setRow_heap wr b2 _ #[.int .i64 e.op, .string e.t.v, .int .i64 e.t.k, .int .i64 e.t.n, .string e.t.s, .slice A3 L.length c3] _ _ HRs.out
        have hkr : Kept [b2] wr (wr.setRow b2 #[.int .i64 e.op, .string e.t.v, .int .i64 e.t.k, .int .i64 e.t.n, .string e.t.s, .slice A3 L.length c3]) := ⟨rfl, rfl, rfl, by simp, fun k _ hn => setRow_other wr b2 k _ (by simpa using hn)⟩
        obtain ⟨q1, q2, q3⟩ := HX.out.done hjk hlen HO.out hkr
        refine bodyPost_ret (v := .agg #[.int .i64 e.op, .string e.t.v, .int .i64 e.t.k, .int .i64 e.t.n, .string e.t.s, .slice A3 L.length c3]) (results_cell_row (P := Tryz.prog) rfl _ _ b2 75 _ (0, 0) _ rfl hrow Tryz.underlying75 rfl hinf) rfl ?_
        exact ⟨A3, c3, by rw [q1], q2, q3⟩
end Go.Proofs.YtikohamfnnlhcaaGreatDoor

set_option linter.unusedVariables false
set_option linter.unusedSimpArgs false
namespace Go.Proofs.YtikohamfnnlhcaaGreatDoor
open Go.RowKit Go.Deep Go.Shelf

theorem one_sole {s : ByteArray} {q : Nat} (h : soleB q s = true) : lexA kindW 0 s.data.toList = ([(q, s.data.toList, 0)], none) := by
  unfold soleB at h
  have ht := of_decide_eq_true h
  obtain ⟨h2, h3⟩ := tok_skip ht
  rw [lexA_tok (by rw [h2]; exact h3) (by rw [h2]; exact ht), h2]
  rw [lexA_end (by simp)]
/-- there is no error, and one token alone, of that kind, with that text. -/
def sgB (R : List Tk × Option Nat) (q : Nat) (l : List UInt8) : Bool :=
  match R.2 with
  | some _ => false
  | none => match R.1 with
    | [x] => decide (x.1 = q) && decide (x.2.1 = l)
    | _ => false
theorem sg_sole {s : ByteArray} {q : Nat} (hq : q ≠ 0) : sgB (lexA kindW 0 s.data.toList) q s.data.toList = soleB q s := by
  cases hb : soleB q s with
  | true => rw [one_sole hb]; simp [sgB]
  | false =>
    cases hR : lexA kindW 0 s.data.toList with
    | mk l1 l2 =>
      cases l2 with
      | some p => rfl
      | none =>
        match l1, hR with
        | [], _ => rfl
        | [x], hR =>
          have h := sole_first (s := s) (q := q) (x := x) hq (by rw [hR]; exact ⟨[], rfl⟩)
          rw [hb] at h
          exact h.symm
        | _ :: _ :: _, _ => rfl
set_option maxRecDepth 100000 in
set_option maxHeartbeats 1000000 in
theorem all_is (s : ByteArray) (R : List Tk × Option Nat) (w : World) (hR : lexA kindW 0 s.data.toList = R) (hs : s.size ≤ 4000) :
    Calls Tryz.prog 100 #[.string s] w fun e w' => ∃ A c, e = .returned (.tuple (match R.2 with | none => #[.slice A R.1.length c, .int .i64 0, .int .i64 0] | some p => #[.slice none 0 0, .int .i64 (p : Int), .int .i64 2])) ∧ TRow w' A R.1 ∧ Below w.heap.size w w' := by
  have C := Lib.hid (refList_any s w (by omega))
  rw [hR] at C
  clear hR
  obtain ⟨l1, l2⟩ := R
  cases l2 with
  | none =>
    go_enter Tryz.func100, Tryz.ntmps100
    go_wp2_with fail
    refine C.out.mono ?_
    rintro e w' ⟨A, c, rfl, hr, hb⟩
    have HRr := Lib.hid hr
    have HB := Lib.hid hb
    clear hr hb
    go_wp2_with fail
    exact bodyPost_ret (v := .tuple #[.slice A l1.length c, .int .i64 0, .int .i64 0]) (by simp [results, Tryz.results100, go_sem]) rfl ⟨A, c, rfl, HRr.out, HB.out⟩
  | some p =>
    have hp : (0 : Int) ≤ p := Int.natCast_nonneg p
    go_enter Tryz.func100, Tryz.ntmps100
    go_wp2_with fail
    refine C.out.mono ?_
    rintro e w' ⟨A, c, rfl, hr, hb⟩
    have HRr := Lib.hid hr
    have HB := Lib.hid hb
    clear hr hb
    go_wp2_with fail
    exact bodyPost_ret (v := .tuple #[.slice none 0 0, .int .i64 (p : Int), .int .i64 2]) (by simp [results, Tryz.results100, go_sem]) rfl ⟨A, c, rfl, HRr.out, HB.out⟩
set_option maxRecDepth 100000 in
set_option maxHeartbeats 1000000 in
theorem single_is (s : ByteArray) (q : Nat) (w : World) (hs : s.size ≤ 4000) (hq : q ≠ 0) (hq2 : q ≤ 100) :
    Calls Tryz.prog 66 #[.string s, .int .i64 q] w fun e w' => e = .returned (.bool (soleB q s)) ∧ Below w.heap.size w w' := by
  rw [← sg_sole hq]
  have C := Lib.hid (all_is s (lexA kindW 0 s.data.toList) w rfl hs)
  generalize lexA kindW 0 s.data.toList = R at C ⊢
  obtain ⟨l1, l2⟩ := R
  cases l2 with
  | some p =>
    have HS : Hid (sgB (l1, some p) q s.data.toList = false) := rfl
    go_enter Tryz.func66, Tryz.ntmps66
    go_wp2_with fail
    refine C.out.mono ?_
    rintro e w' ⟨A, c, rfl, hr, hb⟩
    have HB := Lib.hid hb
    clear hr hb
    go_wp2_with fail
    go_ret
    rw [HS.out]
    exact ⟨rfl, HB.out⟩
  | none =>
    by_cases h1 : l1.length = 1
    · obtain ⟨x, rfl⟩ : ∃ x, l1 = [x] := by
        match l1, h1 with
        | [x], _ => exact ⟨x, rfl⟩
      have HS : Hid (sgB ([x], none) q s.data.toList = (decide (x.1 = q) && decide (x.2.1 = s.data.toList))) := rfl
      clear h1
      go_enter Tryz.func66, Tryz.ntmps66
      go_wp2_with fail
      refine C.out.mono ?_
      rintro e w' ⟨A, c, rfl, hr, hb⟩
      have HB := Lib.hid hb
      obtain ⟨b, o, rfl, hbw, hc⟩ := hr (by simp)
      obtain ⟨c0, c1, _⟩ := hc 0 x rfl
      rw [Nat.zero_mul, Nat.add_zero] at c0 c1
      obtain ⟨kq, t, at_⟩ := x
      simp only at c0 c1
      have HT : Hid (bts t = s ↔ t = s.data.toList) := ⟨fun h => by rw [← h], fun h => by rw [h, bts_of]⟩
      clear hr hb hc C
      by_cases hk : kq = q
      · subst hk
        by_cases ht : t = s.data.toList
        · have hts : bts t = s := HT.out.2 ht
          rw [hts] at c1
          clear hts
          go_wp2_with fail
          go_ret
          rw [HS.out]
          exact ⟨by simp [ht], HB.out⟩
        · have hts : ¬ bts t = s := fun h => ht (HT.out.1 h)
          clear HT
          generalize bts t = u at c1 hts
          have hts3 : (u.toList == s.toList) = false := by
            rw [beq_eq_false_iff_ne]
            exact fun h => hts (toList_inj' h)
          go_wp2_with fail
          go_ret
          rw [HS.out]
          refine ⟨?_, HB.out⟩
          rw [decide_eq_false (p := t = s.data.toList) ht, Bool.and_false]
          simp [hts3]
      · have hk2 : ¬ (kq : Int) = (q : Int) := by omega
        go_wp2_with fail
        go_ret
        rw [HS.out]
        exact ⟨by simp [hk], HB.out⟩
    · have HS : Hid (sgB (l1, none) q s.data.toList = false) := by
        match l1, h1 with
        | [], _ => rfl
        | [x], h1 => exact absurd rfl h1
        | _ :: _ :: _, _ => rfl
      have hl : ¬ (l1.length : Int) = 1 := by omega
      go_enter Tryz.func66, Tryz.ntmps66
      go_wp2_with fail
      refine C.out.mono ?_
      rintro e w' ⟨A, c, rfl, hr, hb⟩
      have HB := Lib.hid hb
      clear hr hb
      go_wp2_with fail
      go_ret
      rw [HS.out]
      exact ⟨rfl, HB.out⟩
end Go.Proofs.YtikohamfnnlhcaaGreatDoor
