/- Lists copied into new memory: what is kept of each element, and where it lies. Conditions: none. The law's copies of an atom, a literal, a rule and a program in the document's form. Conditions: sizes of at most 30,000. The document's terms, expressions and atoms: which are right. Conditions: texts of at most 2^47 bytes. The document's literals, rules and programs: which are right, which are formed. Conditions: texts of at most 2^47 bytes. -/
import Derived.Test.YtlfakhjcpdkaiaaGreatDoorTermEb
import Derived.Test.YtlfakhjcpdkaiaaGreatDoorTermI
set_option linter.unusedVariables false
set_option linter.unusedSimpArgs false
namespace Go.Proofs.YtlfakhjcpdkaiaaGreatDoor
open Go.RowKit Go.Deep Go.Shelf

/-- a fact that stays while such blocks stay. -/
def Stab (w : World) (P : Nat → Prop) (F : World → Prop) : Prop := ∀ w', w.heap.size ≤ w'.heap.size → (∀ k, k < w.heap.size → P k → w'.heap[k]? = w.heap[k]?) → F w'
section
variable {w w' : World} {P P' : Nat → Prop} {F G : World → Prop}
theorem Stab.here (h : Stab w P F) : F w := h w (Nat.le_refl _) (fun _ _ _ => rfl)
theorem Stab.keep (h : Stab w P F) (hs : w.heap.size ≤ w'.heap.size) (hk : ∀ k, k < w.heap.size → P k → w'.heap[k]? = w.heap[k]?) (hP : ∀ k, k < w.heap.size → P k → P' k) : Stab w' P' F :=
  fun w2 h2 hk2 => h w2 (Nat.le_trans hs h2) (fun k hkw hp => (hk2 k (Nat.lt_of_lt_of_le hkw hs) (hP k hkw hp)).trans (hk k hkw hp))
theorem Stab.below (h : Stab w P F) (hb : Below w.heap.size w w') : Stab w' P F := h.keep hb.size (fun k hk _ => hb.block k hk) (fun _ _ h => h)
theorem Stab.more (h : Stab w P F) (hP : ∀ k, k < w.heap.size → P k → P' k) : Stab w P' F := h.keep (Nat.le_refl _) (fun _ _ _ => rfl) hP
theorem Stab.imp (h : Stab w P F) (hi : ∀ W, F W → G W) : Stab w P G := fun w' h1 h2 => hi _ (h w' h1 h2)
theorem Stab.and (h : Stab w P F) (h' : Stab w P G) : Stab w P (fun W => F W ∧ G W) := fun w' h1 h2 => ⟨h w' h1 h2, h' w' h1 h2⟩
/-- what stays whatever is made. -/
theorem Stab.old {n : Nat} (hF : ∀ W, Pers w W → F W) : Stab w (fun k => k < w.heap.size) F := fun w' h1 h2 =>
  hF w' ⟨h1, fun p v hp => by
    have hb := World.block_lt_of_cell? w p hp
    exact (World.cell?_of_block (w := w) (h2 p.block hb hb)).trans hp⟩
end
/-- a row of the call's own: the cells of its elements, and what is known of each. -/
structure GR {α : Type} (K : Nat) (E : TypeId) (F : World → List Value → α → Prop) (B0 base : Nat) (v : Value) (xs : List α) (css : List (List Value)) (W : World) : Prop where
  own : W.ownsRow base E K v xs.length css.flatten
  len : css.length = xs.length
  each : ∀ cs ∈ css, cs.length = K
  fact : ∀ (i : Nat) x cs, xs[i]? = some x → css[i]? = some cs → Stab W (fun k => (k < B0 ∨ base ≤ k) ∧ some k ≠ v.ownBlock) (fun W => F W cs x)
theorem flat_at {K : Nat} : ∀ (css : List (List Value)), (∀ cs ∈ css, cs.length = K) → ∀ (i : Nat) cs, css[i]? = some cs → ∀ j, j < K → css.flatten[i * K + j]? = cs[j]?
  | [], _, i, cs, h, _, _ => by cases h
  | c :: r, hK, 0, cs, h, j, hj => by
    simp only [List.getElem?_cons_zero, Option.some.injEq] at h
    subst h
    rw [List.flatten_cons, Nat.zero_mul, Nat.zero_add]
    exact List.getElem?_append_left (by rw [hK c (by simp)]; exact hj)
  | c :: r, hK, i + 1, cs, h, j, hj => by
    simp only [List.getElem?_cons_succ] at h
    have hc := hK c (by simp)
    rw [← flat_at r (fun x hx => hK x (by simp [hx])) i cs h j hj, List.flatten_cons, List.getElem?_append_right (by rw [hc, Nat.add_mul]; omega), hc]
    congr 1
    rw [Nat.add_mul]
    omega
section
variable {α : Type} {K : Nat} {E : TypeId} {F : World → List Value → α → Prop} {B0 base : Nat} {v : Value} {xs : List α} {css : List (List Value)} {W W' : World}
theorem GR.nil (W : World) : GR K E F B0 base (.slice none 0 0) [] [] W := ⟨World.ownsRow_nil _ _ _ _, rfl, (fun cs h => by cases h), (fun i x cs h => by cases h)⟩
theorem GR.kept {S : List Nat} (h : GR K E F B0 base v xs css W) (hk : Kept S W W') (hS : ∀ k ∈ S, B0 ≤ k ∧ k < base) : GR K E F B0 base v xs css W' :=
  ⟨owns_off h.own hk (fun k hs => (hS k hs).2), h.len, h.each, fun i x cs h1 h2 => (h.fact i x cs h1 h2).keep hk.size (fun k hkw hp => hk.block k hkw (fun hs => by have := hS k hs; have := hp.1; omega)) (fun _ _ h => h)⟩
theorem GR.below (h : GR K E F B0 base v xs css W) (hb : Below W.heap.size W W') : GR K E F B0 base v xs css W' := h.kept (Kept.of [] hb) (fun _ h => by cases h)
theorem GR.box (h : GR K E F B0 base v xs css W) {p : Addr} (h1 : B0 ≤ p.block) (h2 : p.block < base) (u : Value) : GR K E F B0 base v xs css (W.setCell p u) :=
  h.kept (S := [p.block]) ((Kept.refl _ W).setCell (.inl (by simp)) u) (fun k hk => by simp only [List.mem_singleton] at hk; subst hk; exact ⟨h1, h2⟩)
theorem GR.lt (h : GR K E F B0 base v xs css W) : ∀ k, v.ownBlock = some k → base ≤ k ∧ k < W.heap.size := h.own.lt
theorem GR.val (h : GR K E F B0 base v xs css W) : ∃ A c, v = .slice A xs.length c := by
  obtain ⟨A, c, h1, _⟩ := own_valueM h.own
  exact ⟨A, c, h1⟩
theorem GR.app {P : Program} {S : TypeId} (h : GR K E F B0 base v xs css W) (hu : P.underlying S = some (.slice E)) {z : Value} {bytes : Nat} (hi : (P.info? E).map (fun i => (i.zero, i.size, i.bytes)) = some (some z, K, bytes)) (hzs : z.cells.size = K) (hK : 0 < K)
    (x : α) (cs : List Value) (hcl : cs.length = K) (h1 : ∀ u ∈ cs, u.oneCell' = true) {b : Nat} {T : TypeId} (hO : Own W b T cs) (hx : Stab W (fun k => (k < B0 ∨ base ≤ k) ∧ some k ≠ v.ownBlock) (fun W => F W cs x))
    (hlen : xs.length ≤ 100000) (hby : bytes ≤ 1000) (hbase : base ≤ W.heap.size) :
    ∃ v' w', (Builtin.append_ #[S, S] S #[v, .slice (some ⟨b, 0, none⟩) 1 1]).run P W = .ok v' w' ∧ GR K E F B0 base v' (xs ++ [x]) (css ++ [cs]) w' ∧ W.grownBy w' v.ownBlock ∧ (v'.ownBlock = v.ownBlock ∨ v'.ownBlock = some W.heap.size) := by
  obtain ⟨i, hi, hz, hs1, hb⟩ := info_parts hi
  have hcells : ∀ j u, cs[j]? = some u → W.cell? ((⟨b, 0, none⟩ : Addr).add j) = some u := fun j u hu => by
    rw [Addr.add_lit, Nat.zero_add, hO.cell]
    exact hu
  have hbb : (xs.length + 1) * bytes ≤ 140737488355328 := Nat.le_trans (Nat.mul_le_mul (by omega : xs.length + 1 ≤ 100001) hby) (by decide)
  obtain ⟨v', w', g1, g2, g3, _, g5⟩ := run_append_own_at (P := P) W base S S E i z K bytes hu hi hz hs1 hb hzs hK v xs.length css.flatten h.own ⟨b, 0, none⟩ 1 1 cs (by omega) hcells h1 (by unfold maxLen; omega) hbb hbase
  have hP : ∀ k, k < W.heap.size → ((k < B0 ∨ base ≤ k) ∧ some k ≠ v.ownBlock) → ((k < B0 ∨ base ≤ k) ∧ some k ≠ v'.ownBlock) := fun k hk hp => ⟨hp.1, fun e => by
    rcases g5 with h5 | h5
    · rw [h5] at e; exact hp.2 e
    · rw [h5] at e; injection e with e; omega⟩
  refine ⟨v', w', g1, ⟨?_, by simp [h.len], ?_, ?_⟩, g3, g5⟩
  · rw [List.length_append, List.flatten_append, List.flatten_singleton]
    exact g2
  · intro c hc
    rcases List.mem_append.1 hc with hc | hc
    · exact h.each c hc
    · simp only [List.mem_singleton] at hc
      subst hc
      exact hcl
  · intro i y c h2 h3
    by_cases hi : i < xs.length
    · rw [List.getElem?_append_left hi] at h2
      rw [List.getElem?_append_left (by rw [h.len]; exact hi)] at h3
      exact (h.fact i y c h2 h3).keep g3.size (fun k hk hp => g3.block k hk hp.2) hP
    · rw [List.getElem?_append_right (by omega)] at h2
      rw [List.getElem?_append_right (by rw [h.len]; omega)] at h3
      have hlt := (List.getElem?_eq_some_iff.1 h2).1
      have h0 : i - xs.length = 0 := by simp at hlt; omega
      have h0' : i - css.length = 0 := by rw [h.len]; exact h0
      rw [h0] at h2
      rw [h0'] at h3
      simp only [List.getElem?_cons_zero, Option.some.injEq] at h2 h3
      subst h2 h3
      exact hx.keep g3.size (fun k hk hp => g3.block k hk hp.2) hP
/-- the row, told as any row. -/
theorem GR.rg {Q : World → Nat → Nat → α → Prop} {A : Option Addr} {c n : Nat} (h : GR K E F B0 base (.slice A n c) xs css W) (hn : n = xs.length)
    (hQ : ∀ (W : World) b o x cs, cs.length = K → (∀ (j : Nat) u, cs[j]? = some u → W.cell? ⟨b, o + j, none⟩ = some u) → F W cs x → Q W b o x) (hl : xs.length ≤ 140737488351232) :
    Stab W (fun k => k < B0 ∨ base ≤ k) (fun W => Rg K Q W A xs) := by
  subst hn
  intro w' hs hk
  refine ⟨hl, fun h0 => ?_⟩
  rcases h.own.2 with ⟨_, h2⟩ | ⟨g, cap, cur, h1, hg, hc, hcap, _, hcs, htake⟩
  · omega
  · injection h1 with h1 _ _
    subst h1
    have hgw : g < W.heap.size := (Array.getElem?_eq_some_iff.1 hc).1
    have hg' := hk g hgw (.inr hg)
    refine ⟨g, 0, rfl, Nat.lt_of_lt_of_le hgw hs, fun i y hy => ?_⟩
    have hil := (List.getElem?_eq_some_iff.1 hy).1
    have hcl : i < css.length := by rw [h.len]; exact hil
    have hci := List.getElem?_eq_getElem hcl
    have hK := h.each _ (List.getElem_mem hcl)
    refine hQ w' g (0 + i * K) y css[i] hK (fun j u hu => ?_) (h.fact i y _ hy hci w' hs (fun k hkw hp => hk k hkw hp.1))
    have hj : j < K := by have := (List.getElem?_eq_some_iff.1 hu).1; omega
    have e1 : w'.cell? ⟨g, 0 + i * K + j, none⟩ = W.cell? ⟨g, 0 + i * K + j, none⟩ := World.cell?_of_block (w := W) hg'
    have hle : i * K + j < xs.length * K := by
      have : (i + 1) * K ≤ xs.length * K := Nat.mul_le_mul_right K hil
      rw [Nat.add_mul] at this
      omega
    rw [e1, cell_of_row W g _ cur _ (0, 0) hc, ← hu, ← flat_at css h.each i _ hci j hj, ← htake, List.getElem?_take, if_pos hle, Nat.zero_add]
    simp
end
/-- what is known of the cells of each kind of thing. -/
def FTm (_ : World) (cs : List Value) (t : TTm) : Prop := cs = [.string t.v, .int .i64 t.k, .int .i64 t.n, .string t.s] ∧ okTm t
def ltL (x : TLt) (A : Option Addr) (c : Nat) (L : Option Addr) (d : Nat) (R : Option Addr) (f : Nat) : List Value :=
  [.int .i64 x.kind, .string x.atom.rel, .slice A x.atom.args.length c, .int .i64 x.op, .int .i64 x.left.op, .string x.left.t.v, .int .i64 x.left.t.k, .int .i64 x.left.t.n, .string x.left.t.s, .slice L x.left.kids.length d,
    .int .i64 x.right.op, .string x.right.t.v, .int .i64 x.right.t.k, .int .i64 x.right.t.n, .string x.right.t.s, .slice R x.right.kids.length f, .int .i64 x.pos]
def FLt (w : World) (cs : List Value) (x : TLt) : Prop := ∃ A c L d R f, cs = ltL x A c L d R f ∧ LtV w x A L R
def FRu (w : World) (cs : List Value) (r : TRu) : Prop := ∃ A c B d, cs = [.string r.head.rel, .slice A r.head.args.length c, .int .i64 r.agg, .int .i64 r.col, .slice B r.body.length d, .int .i64 r.pos] ∧ RuV w r A B
def FDe (w : World) (cs : List Value) (d : TDe) : Prop := ∃ A c, cs = [.string d.rel, .slice A d.kinds.length c, .int .i64 d.pos] ∧ Rg 1 IntC w A d.kinds ∧ d.rel.size ≤ 140737488351232
theorem FTm.c (W : World) (b o : Nat) (x : TTm) (cs : List Value) (_ : cs.length = 4) (h : ∀ (j : Nat) u, cs[j]? = some u → W.cell? ⟨b, o + j, none⟩ = some u) (hF : FTm W cs x) : TmC W b o x := by
  obtain ⟨rfl, ho⟩ := hF
  exact ⟨h 0 _ rfl, h 1 _ rfl, h 2 _ rfl, h 3 _ rfl, ho⟩
theorem FLt.c (W : World) (b o : Nat) (x : TLt) (cs : List Value) (_ : cs.length = 17) (h : ∀ (j : Nat) u, cs[j]? = some u → W.cell? ⟨b, o + j, none⟩ = some u) (hF : FLt W cs x) : LtC W b o x := by
  obtain ⟨A, c, L, d, R, f, rfl, hV⟩ := hF
  exact LtC.shut (A := A) (c := c) (L := L) (d := d) (R := R) (f := f) ⟨h 0 _ rfl, h 1 _ rfl, h 2 _ rfl, h 3 _ rfl, ⟨h 4 _ rfl, h 5 _ rfl, h 6 _ rfl, h 7 _ rfl, h 8 _ rfl, h 9 _ rfl⟩, ⟨h 10 _ rfl, h 11 _ rfl, h 12 _ rfl, h 13 _ rfl, h 14 _ rfl, h 15 _ rfl⟩, h 16 _ rfl⟩ hV
theorem FRu.c (W : World) (b o : Nat) (x : TRu) (cs : List Value) (_ : cs.length = 6) (h : ∀ (j : Nat) u, cs[j]? = some u → W.cell? ⟨b, o + j, none⟩ = some u) (hF : FRu W cs x) : RuC W b o x := by
  obtain ⟨A, c, B, d, rfl, hV⟩ := hF
  exact RuC.shut (h 0 _ rfl) (h 1 _ rfl) (h 2 _ rfl) (h 3 _ rfl) (h 4 _ rfl) (h 5 _ rfl) hV
theorem FDe.c (W : World) (b o : Nat) (x : TDe) (cs : List Value) (_ : cs.length = 3) (h : ∀ (j : Nat) u, cs[j]? = some u → W.cell? ⟨b, o + j, none⟩ = some u) (hF : FDe W cs x) : DeC W b o x := by
  obtain ⟨A, c, rfl, hR, hl⟩ := hF
  exact ⟨h 0 _ rfl, ⟨A, c, h 1 _ rfl, hR⟩, h 2 _ rfl, hl⟩
end Go.Proofs.YtlfakhjcpdkaiaaGreatDoor

set_option linter.unusedVariables false
set_option linter.unusedSimpArgs false
namespace Go.Proofs.YtlfakhjcpdkaiaaGreatDoor
open Go.RowKit Go.Deep Go.Shelf

theorem wpList_append_run {P : Program} {ops : Array Oper} {rest : List Oper} {o : Oper} {a : Act} {w : World} {Q : Exit → Act → World → Prop}
    (hg : o.guard = none) (s x : Operand) (t : TypeId) (hop : o.op = Op.call { callee := Callee.builtin Builtin.append, args := #[s, x], argTypes := #[t, t] }) (hty : o.type = t)
    (vs vx : Value) (hs : a.eval s = vs) (hx : a.eval x = vx) {v' : Value} {w' : World} (hrun : (Builtin.append_ #[t, t] t #[vs, vx]).run P w = .ok v' w') (hK : wpList P ops Q rest (a.put o.dst v') w') : wpList P ops Q (o :: rest) a w :=
  wpList_plain hg fun K hK' => by
    unfold Oper.wp
    simp [execOp, hop, hty, resolve, invoke, builtin, hs, hx, hrun, Result.andThen]
    exact hK' _ _ hK
/-- a round's state: the copy so far, in a box of its own. -/
structure CpI {α : Type} (K : Nat) (E T : TypeId) (F : World → List Value → α → Prop) (n0 bs : Nat) (w : World) (b2 b3 : Nat) (zs cells : List Value) (vv : Value) (xs : List α) (css : List (List Value)) (W : World) : Prop where
  own : Own W b3 T cells
  res : Own W b2 T zs
  row : GR K E F n0 bs vv xs css W
  old : n0 ≤ w.heap.size
  lb : b3 < bs
  sz : bs ≤ W.heap.size
  bel : Below w.heap.size w W
  lo : w.heap.size ≤ b2
  lt : b2 < b3
section
variable {α : Type} {K : Nat} {E T : TypeId} {F : World → List Value → α → Prop} {n0 bs : Nat} {w : World} {b2 b3 : Nat} {zs cells : List Value} {vv : Value} {xs : List α} {css : List (List Value)} {W W' : World}
theorem CpI.below (h : CpI K E T F n0 bs w b2 b3 zs cells vv xs css W) (hb : Below W.heap.size W W') : CpI K E T F n0 bs w b2 b3 zs cells vv xs css W' :=
  ⟨h.own.below hb, h.res.below hb, h.row.below hb, h.old, h.lb, Nat.le_trans h.sz hb.size, h.bel.trans (hb.mono h.bel.size), h.lo, h.lt⟩
theorem CpI.step {v' : Value} {xs' : List α} {css' : List (List Value)} (h : CpI K E T F n0 bs w b2 b3 zs cells vv xs css W) (hr : GR K E F n0 bs v' xs' css' W') (hg : W.grownBy W' vv.ownBlock) (i : Nat) :
    CpI K E T F n0 bs w b2 b3 zs (cells.set i v') v' xs' css' (W'.setCell ⟨b3, i, none⟩ v') ∧ ∀ k, k < bs → k ≠ b3 → (W'.setCell ⟨b3, i, none⟩ v').heap[k]? = W.heap[k]? := by
  have hown : ∀ k, vv.ownBlock = some k → bs ≤ k ∧ k < W.heap.size := h.row.lt
  have k5 : Kept vv.ownBlock.toList W W' := Kept.grown hg (fun k hk => by rw [hk]; simp)
  have hlt := h.lt
  have hlo := h.lo
  have hlb := h.lb
  have hsz := h.sz
  have hn : ∀ k, k < bs → k ∉ vv.ownBlock.toList := fun k hk hm => by
    have := (hown k (by simpa using hm)).1
    omega
  have s3 : Kept [b3] W' (W'.setCell ⟨b3, i, none⟩ v') := (Kept.refl [b3] W').setCell (.inl (by simp)) _
  refine ⟨⟨(k5.own h.own (hn b3 hlb)).set i v', s3.own (k5.own h.res (hn b2 (by omega))) (by simp only [List.mem_singleton]; omega), hr.kept s3 (fun k hk => by simp only [List.mem_singleton] at hk; have := h.old; omega), h.old, hlb, ?_, ?_, hlo, hlt⟩, fun k hk hk3 => ?_⟩
  · have := k5.size
    have := s3.size
    omega
  · have hsw := h.bel.size
    exact h.bel.trans ((k5.below (B := w.heap.size) hsw (fun k hk => by have := (hown k (by simpa using hk)).1; omega)).trans (s3.below (B := w.heap.size) (by have := k5.size; omega) (fun k hk => by simp only [List.mem_singleton] at hk; omega)))
  · exact (s3.block k (by have := k5.size; omega) (by simpa using hk3)).trans (k5.block k (by omega) (hn k hk))
/-- one append, by its run. -/
theorem CpI.app {P : Program} {S : TypeId} (h : CpI K E T F n0 bs w b2 b3 zs cells vv xs css W) (hu : P.underlying S = some (.slice E)) {z : Value} {bytes : Nat} (hi : (P.info? E).map (fun i => (i.zero, i.size, i.bytes)) = some (some z, K, bytes)) (hzs : z.cells.size = K) (hK : 0 < K)
    (x : α) (cs : List Value) (hcl : cs.length = K) (h1 : ∀ u ∈ cs, u.oneCell' = true) {b : Nat} {T' : TypeId} (hO : Own W b T' cs) (hx : Stab W (fun k => (k < n0 ∨ bs ≤ k) ∧ some k ≠ vv.ownBlock) (fun W => F W cs x))
    (hlen : xs.length ≤ 100000) (hby : bytes ≤ 1000) :
    ∃ A c W', (Builtin.append_ #[S, S] S #[vv, .slice (some ⟨b, 0, none⟩) 1 1]).run P W = .ok (.slice A (xs.length + 1) c) W' ∧ (∀ k, k < W.heap.size → some k ≠ vv.ownBlock → W'.heap[k]? = W.heap[k]?) ∧ W.heap.size ≤ W'.heap.size ∧
      ∀ i, CpI K E T F n0 bs w b2 b3 zs (cells.set i (.slice A (xs.length + 1) c)) (.slice A (xs.length + 1) c) (xs ++ [x]) (css ++ [cs]) (W'.setCell ⟨b3, i, none⟩ (.slice A (xs.length + 1) c)) ∧
        ∀ k, k < bs → k ≠ b3 → (W'.setCell ⟨b3, i, none⟩ (.slice A (xs.length + 1) c)).heap[k]? = W.heap[k]? := by
  obtain ⟨v', W', g1, g2, g3, _⟩ := h.row.app hu hi hzs hK x cs hcl h1 hO hx hlen hby h.sz
  obtain ⟨A, c, hv⟩ := g2.val
  rw [List.length_append, List.length_singleton] at hv
  subst hv
  exact ⟨A, c, W', g1, g3.block, g3.size, fun i => h.step g2 g3 i⟩
theorem CpI.boxOff (h : CpI K E T F n0 bs w b2 b3 zs cells vv xs css W) : some b3 ≠ vv.ownBlock := fun e => by have := (h.row.lt b3 e.symm).1; have := h.lb; omega
/-- the end: the box copied into the result. -/
theorem CpI.done {Q : World → Nat → Nat → α → Prop} {A : Option Addr} {c : Nat} (h : CpI K E T F n0 bs w b2 b3 zs cells (.slice A xs.length c) xs css W)
    (hQ : ∀ (W : World) b o x cs, cs.length = K → (∀ (j : Nat) u, cs[j]? = some u → W.cell? ⟨b, o + j, none⟩ = some u) → F W cs x → Q W b o x) (hl : xs.length ≤ 140737488351232) (hk : Kept [b2] W W') :
    Stab W' (fun k => k < n0 ∨ bs ≤ k) (fun W => Rg K Q W A xs) ∧ Below w.heap.size w W' := by
  have hlo := h.lo
  have hlt := h.lt
  have hold := h.old
  have hlb := h.lb
  exact ⟨(h.row.rg rfl hQ hl).keep hk.size (fun k hkw hp => hk.block k hkw (by simp only [List.mem_singleton]; omega)) (fun _ _ h => h), h.bel.trans (hk.below h.bel.size (fun k hk => by simp only [List.mem_singleton] at hk; omega))⟩
end
theorem take_snoc' {α : Type} {l : List α} {j : Nat} (h : j < l.length) : l.take j ++ [l[j]] = l.take (j + 1) := (List.take_succ_eq_append_getElem h).symm
/-- an atom's value depends on its row's block alone. -/
theorem am_stab {W : World} {a : TAm} {A : Option Addr} {P : Nat → Prop} (h : AmV W a A) (hA : ∀ ad, A = some ad → P ad.block) : Stab W P (fun W => AmV W a A) := fun w' hs hk =>
  ⟨h.ok, h.row.1, fun h0 => by
    obtain ⟨b, o, h1, h2, h3⟩ := h.row.2 h0
    have hb := hk b h2 (hA _ h1)
    refine ⟨b, o, h1, Nat.lt_of_lt_of_le h2 hs, fun i y hy => ?_⟩
    obtain ⟨c0, c1, c2, c3, hok⟩ := h3 i y hy
    exact ⟨(World.cell?_of_block (w := W) hb).trans c0, (World.cell?_of_block (w := W) hb).trans c1, (World.cell?_of_block (w := W) hb).trans c2, (World.cell?_of_block (w := W) hb).trans c3, hok⟩⟩
/-- what an atom's copy comes to: in memory of its own. -/
def GotA (w : World) (a : TAm) (r : Ending) (w' : World) : Prop := ∃ A c, r = .returned (amV a A c) ∧ AmV w' a A ∧ (∀ ad, A = some ad → w.heap.size ≤ ad.block) ∧ Below w.heap.size w w'
theorem infoRam : (Tryz.prog.info? 67).map (·.size) = some 2 := by kernel_rfl
set_option maxRecDepth 100000 in
set_option maxHeartbeats 1000000 in
theorem Atom_copy (a : TAm) (A : Option Addr) (c : Nat) (w : World) (hsz : a.args.length ≤ 30000) (hV : AmV w a A) : Calls Tryz.prog 38 #[amV a A c] w (GotA w a) := by
  have HV := Lib.hid hV
  have hlen := hV.row.1
  have hrel := hV.ok
  have HX0 : Hid (CpI 4 91 67 FTm 0 (w.heap.size + 1 + 1 + 1) w (w.heap.size + 1) (w.heap.size + 1 + 1) [.string noText, .slice none 0 0] [.string a.rel, .slice none 0 0] (.slice none 0 0) (a.args.take 0) []
      (((w.alloc (.cells #[.string a.rel, .slice A a.args.length c] 44)).alloc (.cells #[.string ⟨#[]⟩, .slice none 0 0] 67)).alloc (.cells #[.string a.rel, .slice none 0 0] 67))) := by
    have o2 := heap_alloc_new (w.alloc (.cells #[.string a.rel, .slice A a.args.length c] 44)) (.cells #[.string ⟨#[]⟩, .slice none 0 0] 67)
    have o3 := heap_alloc_new ((w.alloc (.cells #[.string a.rel, .slice A a.args.length c] 44)).alloc (.cells #[.string ⟨#[]⟩, .slice none 0 0] 67)) (.cells #[.string a.rel, .slice none 0 0] 67)
    simp only [World.size_alloc] at o2 o3
    have o2' : Own ((w.alloc (.cells #[.string a.rel, .slice A a.args.length c] 44)).alloc (.cells #[.string ⟨#[]⟩, .slice none 0 0] 67)) (w.heap.size + 1) 67 [.string noText, .slice none 0 0] := o2
    exact ⟨o3, o2'.alloc _, GR.nil _, Nat.zero_le _, Nat.lt_succ_self _, by simp, (((Below.refl _ _).alloc (Nat.le_refl _) _).alloc (by simp) _).alloc (by simp; omega) _, Nat.le_succ _, Nat.lt_succ_self _⟩
  obtain ⟨W, hW⟩ : ∃ W, W = (((w.alloc (.cells #[.string a.rel, .slice A a.args.length c] 44)).alloc (.cells #[.string ⟨#[]⟩, .slice none 0 0] 67)).alloc (.cells #[.string a.rel, .slice none 0 0] 67)) := ⟨_, rfl⟩
  obtain ⟨b2, hb2⟩ : ∃ b, b = w.heap.size + 1 := ⟨_, rfl⟩
  obtain ⟨b3, hb3⟩ : ∃ b, b = w.heap.size + 1 + 1 := ⟨_, rfl⟩
  rw [← hW, ← hb3, ← hb2] at HX0
  have HW := Lib.hid hW
  have HB2 := Lib.hid hb2
  have HB3 := Lib.hid hb3
  clear hW hb2 hb3 hV
  unfold amV
  go_enter Tryz.func38, Tryz.ntmps38
  go_wp2_with fail
  rw [← HW.out, ← HB3.out, ← HB2.out]
  go_loopw [12] (fun i wr => ∃ (j : Nat) (vv : Value) (css : List (List Value)), j ≤ a.args.length ∧ i = .int .i64 j ∧ Hid (CpI 4 91 67 FTm 0 (b3 + 1) w b2 b3 [.string noText, .slice none 0 0] [.string a.rel, vv] vv (a.args.take j) css wr)) (fun i _ => a.args.length - (intOf i).toNat)
  case atStart => exact ⟨0, _, _, Nat.zero_le _, rfl, HX0⟩
  case round =>
    obtain ⟨j, vv, css, hj, rfl, HX⟩ := hrel
    have x1 := HX.out.own.cell 1
    have xq := HX.out.own.lt
    simp only [List.getElem?_cons_zero, List.getElem?_cons_succ] at x1
    by_cases hlt : j < a.args.length
    · obtain ⟨b, o, rfl, hbw, hc⟩ := HV.out.row.at_ hlt
      obtain ⟨d0, d1, d2, d3, hok⟩ := hc.pers (Pers.of (HX.out.bel))
      have HT := Lib.hid (take_snoc' hlt)
      have hbx : Below wr.heap.size wr ((wr.alloc (.cells #[.string a.args[j].v, .int .i64 a.args[j].k, .int .i64 a.args[j].n, .string a.args[j].s] 41)).alloc (.cells #[.string a.args[j].v, .int .i64 a.args[j].k, .int .i64 a.args[j].n, .string a.args[j].s] 91)) := ((Below.refl _ _).alloc (Nat.le_refl _) _).alloc (by simp) _
      obtain ⟨A3, c3, w5, hrun, hblk, hsz5, hN⟩ := (HX.out.below hbx).app (P := Tryz.prog) (S := 65) Tryz.underlying65 infoRtm rfl (by decide) a.args[j] [.string a.args[j].v, .int .i64 a.args[j].k, .int .i64 a.args[j].n, .string a.args[j].s] rfl (by simp [Value.oneCell']) (heap_alloc_new _ _)
        (fun _ _ _ => ⟨rfl, hok⟩) (by rw [List.length_take]; omega) (by decide)
      have hlj : (a.args.take j).length = j := by rw [List.length_take]; omega
      rw [hlj] at hrun hN
      simp only [World.size_alloc] at hrun
      have HN := Lib.hid (hN 1).1
      have y5 := (hblk b3 (by have := hbx.size; omega) (by exact HX.out.boxOff)).trans (hbx.block b3 xq)
      have hq5 : b3 < w5.heap.size := by have := hbx.size; omega
      have y1 : w5.cell? ⟨b3, 1, none⟩ = some vv := (World.cell?_of_block (w := wr) y5).trans x1
      have yf : w5.frozen? ⟨b3, 1, none⟩ = false := by
        have h3 : Own w5 b3 67 [.string a.rel, vv] := y5.trans HX.out.own
        exact h3.frozen 1
      rw [HT.out] at HN
      clear hN hblk hbx hlj hok hc y5 HT
      generalize a.args[j] = y at *
      go_wp2_with (refine wpList_append_run (o := ⟨some 20, _, _, _, _, _⟩) rfl (.tmp 17) (.tmp 19) 65 rfl rfl _ _ rfl rfl hrun ?_)
      go_roundw
      case rel => exact ⟨j + 1, _, _, by omega, by go_num, HN⟩
      case measure => simp [intOf]; omega
    · have hjk : j = a.args.length := by omega
      obtain ⟨A3, c3, hv3⟩ := HX.out.row.val
      subst hv3
      subst hjk
      have hX := HX.out
      rw [List.take_length] at hX
      have HOo := Lib.hid hX.own
      have HRs := Lib.hid hX.res
      have hinf : (Tryz.prog.info? 67).map (·.size) = some 2 := infoRam
      have HXX := Lib.hid hX
      clear x1 hX HX
      go_wp2_with (first
        | (refine wpList_load_row (o := ⟨some 23, _, _, _, _, _⟩) rfl 67 _ rfl b3 rfl 67 #[.string a.rel, .slice A3 a.args.length c3] (0, 0) _ HOo.out Tryz.underlying67 rfl hinf ?_)
        | (refine wpList_store_row (o := ⟨none, .store 67 _ _, _, _, _, _⟩) rfl 67 _ _ rfl b2 #[.string a.rel, .slice A3 a.args.length c3] rfl rfl 67 _ HRs.out hinf rfl (by simp [Value.oneCell']) ?_))
      have hrow := setRow_heap wr b2 _ #[.string a.rel, .slice A3 a.args.length c3] _ _ HRs.out
      have hkr : Kept [b2] wr (wr.setRow b2 #[.string a.rel, .slice A3 a.args.length c3]) := ⟨rfl, rfl, rfl, by simp, fun k _ hn => setRow_other wr b2 k _ (by simpa using hn)⟩
      obtain ⟨q2, q3⟩ := HXX.out.done FTm.c hlen hkr
      refine bodyPost_ret (v := .agg #[.string a.rel, .slice A3 a.args.length c3]) (results_cell_row (P := Tryz.prog) rfl _ _ b2 67 _ (0, 0) _ rfl hrow Tryz.underlying67 rfl hinf) rfl ?_
      exact ⟨A3, c3, rfl, ⟨hrel, q2.here⟩, fun ad had => by have := (HXX.out.row.lt ad.block (by rw [had]; rfl)).1; have := HB3.out; omega, q3⟩
end Go.Proofs.YtlfakhjcpdkaiaaGreatDoor

set_option linter.unusedVariables false
set_option linter.unusedSimpArgs false
namespace Go.Proofs.YtlfakhjcpdkaiaaGreatDoor
open Go.RowKit Go.Deep Go.Shelf

theorem kindW_len {l : List UInt8} (h : kindW l = 2 ∨ kindW l = 3) : l.length ≤ 32 := by
  unfold kindW at h
  split at h
  · rcases h with h | h <;> cases h
  · split at h
    · rename_i hn
      unfold isName at hn
      simp only [Bool.and_eq_true, decide_eq_true_eq] at hn
      exact hn.1.2
    · split at h
      · rename_i hv
        cases l with
        | nil => exact Nat.zero_le _
        | cons c r =>
          unfold varB at hv
          simp only [Bool.and_eq_true, decide_eq_true_eq] at hv
          omega
      · split at h
        · rcases h with h | h <;> cases h
        · rcases h with h | h <;> cases h
/-- a name is short. -/
theorem sole_short {s : ByteArray} {q : Nat} (hq : q = 2 ∨ q = 3) (h : soleB q s = true) : s.size ≤ 40 := by
  unfold soleB at h
  have h := of_decide_eq_true h
  have hz : s.size = s.data.toList.length := by simp
  unfold tokOf at h
  split at h
  · rw [Option.map_eq_some_iff] at h
    obtain ⟨p, _, h2⟩ := h
    injection h2 with h2 _
    omega
  · split at h
    · cases h
    · injection h with h
      injection h with h1 h2
      have := kindW_len (l := s.data.toList.takeWhile wb) (by omega)
      rw [h2] at this
      omega
set_option maxHeartbeats 400000 in
theorem all_long (s : ByteArray) (w : World) (h1 : 4000 < s.size) (hs : s.size ≤ 140737488351232) :
    Calls Tryz.prog 62 #[.string s] w fun e w' => e = .returned (.tuple #[.slice none 0 0, .int .i64 4000, .int .i64 3]) ∧ w = w' := by
  have h2 : (4000 : Int) < (s.size : Int) := by omega
  go_enter Tryz.func62, Tryz.ntmps62
  go_wp2_with fail
  exact bodyPost_ret (v := .tuple #[.slice none 0 0, .int .i64 4000, .int .i64 3]) (by simp [results, Tryz.results62, go_sem]) rfl ⟨rfl, rfl⟩
set_option maxHeartbeats 400000 in
theorem sole_ref (s : ByteArray) (q : Nat) (b : Bool) (w : World) (h : soleB q s = b) (hs : s.size ≤ 140737488351232) (hq : q = 2 ∨ q = 3) :
    Calls Tryz.prog 43 #[.string s, .int .i64 q] w fun e w' => e = .returned (.bool b) ∧ Below w.heap.size w w' := by
  by_cases hl : s.size ≤ 4000
  · rw [← h]
    exact single_is s q w hl (by omega) (by omega)
  · have hf : b = false := by
      cases b with
      | false => rfl
      | true => have := sole_short hq h; omega
    subst hf
    have C := Lib.hid (all_long s w (by omega) hs)
    clear h hl hq
    go_enter Tryz.func43, Tryz.ntmps43
    go_wp2_with fail
    refine C.out.mono ?_
    rintro e w' ⟨rfl, rfl⟩
    go_wp2_with fail
    go_ret
    exact ⟨rfl, Below.refl _ _⟩
set_option maxHeartbeats 400000 in
theorem refVar_is (s : ByteArray) (b : Bool) (w : World) (h : soleB 3 s = b) (hs : s.size ≤ 140737488351232) : Calls Tryz.prog 78 #[.string s] w fun e w' => e = .returned (.bool b) ∧ Below w.heap.size w w' := by
  have C := Lib.hid (sole_ref s 3 b w h hs (.inr rfl))
  clear h
  go_enter Tryz.func78, Tryz.ntmps78
  go_wp2_with fail
  refine C.out.mono ?_
  rintro e w' ⟨rfl, hb⟩
  go_wp2_with fail
  go_ret
  exact ⟨rfl, hb⟩
set_option maxHeartbeats 400000 in
theorem refNamed_is (s : ByteArray) (b : Bool) (w : World) (h : soleB 2 s = b) (hs : s.size ≤ 140737488351232) : Calls Tryz.prog 21 #[.string s] w fun e w' => e = .returned (.bool b) ∧ Below w.heap.size w w' := by
  have C := Lib.hid (sole_ref s 2 b w h hs (.inl rfl))
  clear h
  go_enter Tryz.func21, Tryz.ntmps21
  go_wp2_with fail
  refine C.out.mono ?_
  rintro e w' ⟨rfl, hb⟩
  go_wp2_with fail
  go_ret
  exact ⟨rfl, hb⟩
set_option maxRecDepth 100000 in
/-- '==' on the document's terms. -/
theorem eqTmR (x y : TTm) (b : Bool) (h : decide (x = y) = b) (w : World) : (binOp .eql 91 (.agg #[.string x.v, .int .i64 x.k, .int .i64 x.n, .string x.s]) (.agg #[.string y.v, .int .i64 y.k, .int .i64 y.n, .string y.s])).run Tryz.prog w = .ok (.bool b) w := by
  have u3 := Tryz.underlying3
  have a3 := Tryz.isAgg3
  have z3 := Tryz.sizeOf3
  have uk := Tryz.underlying37
  have ak := Tryz.isAgg37
  have zk := Tryz.sizeOf37
  have us := Tryz.underlying9
  have aas := Tryz.isAgg9
  have zs := Tryz.sizeOf9
  have uv := Tryz.underlying39
  have av := Tryz.isAgg39
  have zv := Tryz.sizeOf39
  have hS : Tryz.prog.underlying 91 = some (.struct (Tryz.prog.fieldsOf 91)) := by kernel_rfl
  have hp : Tryz.prog.stoodInHeld 91 = false := by kernel_rfl
  have hS2 : Tryz.prog.underlying 39 = some (.struct (Tryz.prog.fieldsOf 39)) := by kernel_rfl
  have hp2 : Tryz.prog.stoodInHeld 39 = false := by kernel_rfl
  obtain ⟨xv, xk, xn, xs⟩ := x
  obtain ⟨yv, yk, yn, ys⟩ := y
  rw [← h]
  rw [run_eql_struct, show (10000 : Nat) = 9999 + 1 from rfl, run_equalIn_agg w 9999 91 _ _ hS hp]
  simp only [Program.fieldsOf, Tryz.underlying91]
  go_simp
  have e1 : (xv.toList = yv.toList) ↔ xv = yv := ⟨toList_inj', fun h => by rw [h]⟩
  have e2 : (xs.toList = ys.toList) ↔ xs = ys := ⟨toList_inj', fun h => by rw [h]⟩
  simp only [e1, e2]
  clear h u3 a3 z3 uk ak zk us aas zs uv av zv hS hp hS2 hp2 e1 e2
  by_cases h1 : xv = yv
  · by_cases h2 : xk = yk
    · by_cases h3 : xn = yn
      · by_cases h4 : xs = ys
        · simp [h1, h2, h3, h4]
        · simp [h1, h2, h3, h4]
      · simp [h1, h2, h3]
    · simp [h1, h2]
  · simp [h1]
set_option maxRecDepth 100000 in
/-- '!=' on the document's terms. -/
theorem neTmR (x y : TTm) (b : Bool) (h : decide (x = y) = b) (w : World) : (binOp .neq 91 (.agg #[.string x.v, .int .i64 x.k, .int .i64 x.n, .string x.s]) (.agg #[.string y.v, .int .i64 y.k, .int .i64 y.n, .string y.s])).run Tryz.prog w = .ok (.bool !b) w := by
  have u3 := Tryz.underlying3
  have a3 := Tryz.isAgg3
  have z3 := Tryz.sizeOf3
  have uk := Tryz.underlying37
  have ak := Tryz.isAgg37
  have zk := Tryz.sizeOf37
  have us := Tryz.underlying9
  have aas := Tryz.isAgg9
  have zs := Tryz.sizeOf9
  have uv := Tryz.underlying39
  have av := Tryz.isAgg39
  have zv := Tryz.sizeOf39
  have hS : Tryz.prog.underlying 91 = some (.struct (Tryz.prog.fieldsOf 91)) := by kernel_rfl
  have hp : Tryz.prog.stoodInHeld 91 = false := by kernel_rfl
  have hS2 : Tryz.prog.underlying 39 = some (.struct (Tryz.prog.fieldsOf 39)) := by kernel_rfl
  have hp2 : Tryz.prog.stoodInHeld 39 = false := by kernel_rfl
  obtain ⟨xv, xk, xn, xs⟩ := x
  obtain ⟨yv, yk, yn, ys⟩ := y
  rw [← h]
  rw [run_neq_struct, show (10000 : Nat) = 9999 + 1 from rfl, run_equalIn_agg w 9999 91 _ _ hS hp]
  simp only [Program.fieldsOf, Tryz.underlying91]
  go_simp
  have e1 : (xv.toList = yv.toList) ↔ xv = yv := ⟨toList_inj', fun h => by rw [h]⟩
  have e2 : (xs.toList = ys.toList) ↔ xs = ys := ⟨toList_inj', fun h => by rw [h]⟩
  simp only [e1, e2]
  clear h u3 a3 z3 uk ak zk us aas zs uv av zv hS hp hS2 hp2 e1 e2
  by_cases h1 : xv = yv
  · by_cases h2 : xk = yk
    · by_cases h3 : xn = yn
      · by_cases h4 : xs = ys
        · simp [h1, h2, h3, h4]
        · simp [h1, h2, h3, h4]
      · simp [h1, h2, h3]
    · simp [h1, h2]
  · simp [h1]
set_option maxRecDepth 100000 in
set_option maxHeartbeats 400000 in
theorem refTm_is (t : TTm) (b : Bool) (w : World) (h : rightTm t = b) (ho : okTm t) : Calls Tryz.prog 63 #[tmV t] w fun r w' => r = .returned (.bool b) ∧ Below w.heap.size w w' := by
  unfold tmV
  unfold rightTm at h
  have ho1 := ho.1
  have ho2 : t.s.size ≤ maxLen := by have := ho.2; unfold maxLen; omega
  have hO : Own (w.alloc (.cells #[.string t.v, .int .i64 t.k, .int .i64 t.n, .string t.s] 91)) w.heap.size 91 [.string t.v, .int .i64 t.k, .int .i64 t.n, .string t.s] := heap_alloc_new _ _
  have HO := Lib.hid hO
  clear hO
  by_cases h0 : t.v.size = 0
  · rw [if_pos h0] at h
    have hz := beq0 h0
    have C : Hid (∀ W, Calls Tryz.prog 77 #[.agg #[.int .i64 t.k, .int .i64 t.n, .string t.s]] W fun e w' => e = .returned (.bool b) ∧ Below W.heap.size W w') := fun W => by rw [← h]; exact refRight_any t.k t.n t.s W ho2
    clear h h0
    go_enter Tryz.func63, Tryz.ntmps63
    go_wp2_with fail
    refine (C.out _).mono ?_
    rintro e w' ⟨rfl, hb⟩
    have HB : Hid (Below w.heap.size w w') := ((Below.refl _ _).alloc (Nat.le_refl _) _).trans (hb.mono (by simp))
    clear hb
    go_wp2_with fail
    go_ret
    exact ⟨rfl, HB.out⟩
  · rw [if_neg h0] at h
    have hz := beq0_not h0
    have C : Hid (∀ W, Calls Tryz.prog 78 #[.string t.v] W fun e w' => e = .returned (.bool (soleB 3 t.v)) ∧ Below W.heap.size W w') := fun W => refVar_is t.v _ W rfl ho1
    cases h1 : soleB 3 t.v with
    | false =>
      rw [h1] at h C
      subst h
      clear h1 h0
      go_enter Tryz.func63, Tryz.ntmps63
      go_wp2_with fail
      refine (C.out _).mono ?_
      rintro e w' ⟨rfl, hb⟩
      have HB : Hid (Below w.heap.size w w') := ((Below.refl _ _).alloc (Nat.le_refl _) _).trans (hb.mono (by simp))
      clear hb
      go_wp2_with fail
      go_ret
      exact ⟨rfl, HB.out⟩
    | true =>
      rw [h1] at h C
      rw [Bool.true_and] at h
      have kq := eqVal t b h
      clear h h1 h0
      go_enter Tryz.func63, Tryz.ntmps63
      go_wp2_with fail
      refine (C.out _).mono ?_
      rintro e w' ⟨rfl, hb⟩
      have HO2 := HO.out.below hb
      have c1 := HO2.cell 1
      have c2 := HO2.cell 2
      have c3 := HO2.cell 3
      simp only [List.getElem?_cons_zero, List.getElem?_cons_succ] at c1 c2 c3
      have HB : Hid (Below w.heap.size w w') := ((Below.refl _ _).alloc (Nat.le_refl _) _).trans (hb.mono (by simp))
      clear hb HO2
      go_wp2_with fail
      go_ret
      exact ⟨rfl, HB.out⟩
set_option maxRecDepth 100000 in
set_option maxHeartbeats 400000 in
theorem refZero_is (e : TEx) (A : Option Addr) (c : Nat) (b : Bool) (w : World) (h : zeroE e = b) : Calls Tryz.prog 64 #[exV e A c] w fun r w' => r = .returned (.bool b) ∧ Below w.heap.size w w' := by
  unfold exV
  unfold zeroE at h
  by_cases h0 : e.op = 0
  · have e0 : (e.op == 0) = true := by simp [h0]
    rw [decide_eq_true h0, Bool.true_and] at h
    by_cases h1 : e.kids.length = 0
    · have e1 := beq0 h1
      rw [decide_eq_true h1, Bool.and_true] at h
      have kq := eqTmR e.t zT b h
      unfold zT at kq
      simp only at kq
      clear h h0 h1
      go_enter Tryz.func64, Tryz.ntmps64
      go_wp2_with fail
      go_ret
      exact ⟨rfl, (Below.refl _ _).alloc (Nat.le_refl _) _⟩
    · have e1 := beq0_not h1
      rw [decide_eq_false h1, Bool.and_false] at h
      subst h
      clear h0 h1
      go_enter Tryz.func64, Tryz.ntmps64
      go_wp2_with fail
      go_ret
      exact ⟨rfl, (Below.refl _ _).alloc (Nat.le_refl _) _⟩
  · have e0 : (e.op == 0) = false := by simp [h0]
    rw [decide_eq_false h0, Bool.false_and] at h
    subst h
    clear h0
    go_enter Tryz.func64, Tryz.ntmps64
    go_wp2_with fail
    go_ret
    exact ⟨rfl, (Below.refl _ _).alloc (Nat.le_refl _) _⟩
set_option maxRecDepth 100000 in
set_option maxHeartbeats 1000000 in
theorem refEx_is (d : Nat) : ∀ (e : TEx) (n : Int) (A : Option Addr) (c : Nat) (b : Bool) (w : World), rightE d e = b → n = (d : Int) → n ≤ 1000 → ExV w e A →
    Calls Tryz.prog 79 #[exV e A c, .int .i64 n] w fun r w' => r = .returned (.bool b) ∧ Below w.heap.size w w' := by
  induction d with
  | zero =>
    intro e n A c b w h hn hn2 hV
    unfold exV
    have hO : Own (w.alloc (.cells #[.int .i64 e.op, .string e.t.v, .int .i64 e.t.k, .int .i64 e.t.n, .string e.t.s, .slice A e.kids.length c] 94)) w.heap.size 94 [.int .i64 e.op, .string e.t.v, .int .i64 e.t.k, .int .i64 e.t.n, .string e.t.s, .slice A e.kids.length c] := heap_alloc_new _ _
    have HO := Lib.hid hO
    have HV := Lib.hid hV
    clear hO
    by_cases h0 : e.op = 0
    · rw [rightE_leaf _ h0] at h
      have e0 : (e.op == 0) = true := by simp [h0]
      by_cases h1 : e.kids.length = 0
      · have e1 := beq0 h1
        rw [decide_eq_true h1, Bool.true_and] at h
        have C : Hid (∀ W, Calls Tryz.prog 63 #[.agg #[.string e.t.v, .int .i64 e.t.k, .int .i64 e.t.n, .string e.t.s]] W fun r w' => r = .returned (.bool b) ∧ Below W.heap.size W w') := fun W => refTm_is e.t b W h HV.out.ok
        clear h h0 h1 hn hV
        go_enter Tryz.func79, Tryz.ntmps79
        go_wp2_with fail
        refine (C.out _).mono ?_
        rintro r w' ⟨rfl, hb⟩
        have HB : Hid (Below w.heap.size w w') := ((Below.refl _ _).alloc (Nat.le_refl _) _).trans (hb.mono (by simp))
        clear hb
        go_wp2_with fail
        go_ret
        exact ⟨rfl, HB.out⟩
      · have e1 := beq0_not h1
        rw [decide_eq_false h1, Bool.false_and] at h
        subst h
        clear h0 h1 hn hV
        go_enter Tryz.func79, Tryz.ntmps79
        go_wp2_with fail
        go_ret
        exact ⟨rfl, (Below.refl _ _).alloc (Nat.le_refl _) _⟩
    · rw [rightE_deep h0] at h
      subst h
      have e0 : (e.op == 0) = false := by simp [h0]
      have e1 : ¬ 0 < n := by omega
      have e2 : decide (0 < n) = false := by simp; omega
      clear h0 hn hV
      go_enter Tryz.func79, Tryz.ntmps79
      go_wp2_with fail
      go_ret
      exact ⟨rfl, (Below.refl _ _).alloc (Nat.le_refl _) _⟩
  | succ d ih =>
    intro e n A c b w h hn hn2 hV
    unfold exV
    have hO : Own (w.alloc (.cells #[.int .i64 e.op, .string e.t.v, .int .i64 e.t.k, .int .i64 e.t.n, .string e.t.s, .slice A e.kids.length c] 94)) w.heap.size 94 [.int .i64 e.op, .string e.t.v, .int .i64 e.t.k, .int .i64 e.t.n, .string e.t.s, .slice A e.kids.length c] := heap_alloc_new _ _
    have HO := Lib.hid hO
    have HV := Lib.hid hV
    clear hO
    by_cases h0 : e.op = 0
    · rw [rightE_leaf _ h0] at h
      have e0 : (e.op == 0) = true := by simp [h0]
      by_cases h1 : e.kids.length = 0
      · have e1 := beq0 h1
        rw [decide_eq_true h1, Bool.true_and] at h
        have C : Hid (∀ W, Calls Tryz.prog 63 #[.agg #[.string e.t.v, .int .i64 e.t.k, .int .i64 e.t.n, .string e.t.s]] W fun r w' => r = .returned (.bool b) ∧ Below W.heap.size W w') := fun W => refTm_is e.t b W h HV.out.ok
        clear h h0 h1 hn hV
        go_enter Tryz.func79, Tryz.ntmps79
        go_wp2_with fail
        refine (C.out _).mono ?_
        rintro r w' ⟨rfl, hb⟩
        have HB : Hid (Below w.heap.size w w') := ((Below.refl _ _).alloc (Nat.le_refl _) _).trans (hb.mono (by simp))
        clear hb
        go_wp2_with fail
        go_ret
        exact ⟨rfl, HB.out⟩
      · have e1 := beq0_not h1
        rw [decide_eq_false h1, Bool.false_and] at h
        subst h
        clear h0 h1 hn hV
        go_enter Tryz.func79, Tryz.ntmps79
        go_wp2_with fail
        go_ret
        exact ⟨rfl, (Below.refl _ _).alloc (Nat.le_refl _) _⟩
    · rw [rightE_node _ h0] at h
      have e0 : (e.op == 0) = false := by simp [h0]
      have e1 : 0 < n := by omega
      have e2 : decide (0 < n) = true := by simp; omega
      have HN : Hid (n - 1 = (d : Int)) := by show _ = _; omega
      have hn0 : -1 ≤ n - 1 := by omega
      clear h0 hn hV
      by_cases h1 : 1 ≤ e.op
      · have d1 : decide (1 ≤ e.op) = true := by simpa using h1
        by_cases h2 : e.op ≤ 3
        · have d2 : decide (e.op ≤ 3) = true := by simpa using h2
          rw [decide_eq_true (show 1 ≤ e.op ∧ e.op ≤ 3 from ⟨h1, h2⟩), Bool.true_and] at h
          by_cases h3 : e.kids.length = 2
          · have e3 : ((e.kids.length : Int) == 2) = true := by simp [h3]
            cases h4 : decide (e.t = zT) with
            | false =>
              have kq := eqTmR e.t zT false h4
              rw [h4, Bool.false_and] at h
              subst h
              unfold zT at kq
              simp only at kq
              clear h3 h4 HN
              go_enter Tryz.func79, Tryz.ntmps79
              go_wp2_with fail
              go_ret
              exact ⟨rfl, (Below.refl _ _).alloc (Nat.le_refl _) _⟩
            | true =>
              have kq := eqTmR e.t zT true h4
              rw [h4, Bool.true_and] at h
              unfold zT at kq
              simp only at kq
              obtain ⟨x, y, hxy⟩ := two_of h3
              rw [hxy] at h
              simp only at h
              have k0 : e.kids[0]'(by omega) = x := by simp [hxy]
              have k1 : e.kids[1]'(by omega) = y := by simp [hxy]
              obtain ⟨g, o, rfl, hgw, hx⟩ := HV.out.row.at_ (k := 0) (by omega)
              obtain ⟨g', o', hA', _, hy⟩ := HV.out.row.at_ (k := 1) (by omega)
              injection hA' with hA'
              injection hA' with q1 q2 _
              subst q1 q2
              rw [k0] at hx
              rw [k1] at hy
              clear k0 k1 hxy
              rw [Nat.zero_mul, Nat.add_zero] at hx
              rw [Nat.one_mul] at hy
              obtain ⟨X, xc, x0, x1, x2, x3, x4, x5, hxV⟩ := hx.open_
              obtain ⟨Y, yc, y0, y1, y2, y3, y4, y5, hyV⟩ := hy.open_
              have CX : Hid (∀ W, Below w.heap.size w W → Calls Tryz.prog 79 #[exV x X xc, .int .i64 (n - 1)] W fun r w' => r = .returned (.bool (rightE d x)) ∧ Below W.heap.size W w') := fun W hb => ih x (n - 1) X xc _ W rfl HN.out (by omega) (hxV.below hb)
              have CY : Hid (∀ W, Below w.heap.size w W → Calls Tryz.prog 79 #[exV y Y yc, .int .i64 (n - 1)] W fun r w' => r = .returned (.bool (rightE d y)) ∧ Below W.heap.size W w') := fun W hb => ih y (n - 1) Y yc _ W rfl HN.out (by omega) (hyV.below hb)
              have HB0 : Hid (Below w.heap.size w (w.alloc (.cells #[.int .i64 e.op, .string e.t.v, .int .i64 e.t.k, .int .i64 e.t.n, .string e.t.s, .slice (some ⟨g, o, none⟩) e.kids.length c] 94))) := (Below.refl w.heap.size w).alloc (Nat.le_refl _) _
              have hk2 : (0 : Int) < (e.kids.length : Int) := by omega
              have hk3 : (1 : Int) < (e.kids.length : Int) := by omega
              have hk4 : 0 < e.kids.length := by omega
              have hk5 : 1 < e.kids.length := by omega
              have Y0 := Lib.hid y0
              have Y1 := Lib.hid y1
              have Y2 := Lib.hid y2
              have Y3 := Lib.hid y3
              have Y4 := Lib.hid y4
              have Y5 := Lib.hid y5
              clear hx hy hxV hyV h3 h4 y0 y1 y2 y3 y4 y5 ih HV HN
              unfold exV at CX CY
              cases h5 : rightE d x with
              | false =>
                rw [h5, Bool.false_and] at h
                rw [h5] at CX
                subst h
                clear h5
                go_enter Tryz.func79, Tryz.ntmps79
                go_wp2_with fail
                refine (CX.out _ HB0.out).mono ?_
                rintro r w' ⟨rfl, hb⟩
                have HB : Hid (Below w.heap.size w w') := HB0.out.trans (hb.mono (by simp))
                clear hb
                go_wp2_with fail
                go_ret
                exact ⟨rfl, HB.out⟩
              | true =>
                rw [h5, Bool.true_and] at h
                rw [h5] at CX
                rw [h] at CY
                clear h5 h
                go_enter Tryz.func79, Tryz.ntmps79
                go_wp2_with fail
                refine (CX.out _ HB0.out).mono ?_
                rintro r w' ⟨rfl, hb⟩
                have HB : Hid (Below w.heap.size w w') := HB0.out.trans (hb.mono (by simp))
                have HO2 := HO.out.below hb
                have c5 := HO2.cell 5
                simp only [List.getElem?_cons_zero, List.getElem?_cons_succ] at c5
                clear hb HO2 x0 x1 x2 x3 x4 x5
                have y0 := (HB.out.cell (p := ⟨g, _, none⟩) hgw).trans Y0.out
                have y1 := (HB.out.cell (p := ⟨g, _, none⟩) hgw).trans Y1.out
                have y2 := (HB.out.cell (p := ⟨g, _, none⟩) hgw).trans Y2.out
                have y3 := (HB.out.cell (p := ⟨g, _, none⟩) hgw).trans Y3.out
                have y4 := (HB.out.cell (p := ⟨g, _, none⟩) hgw).trans Y4.out
                have y5 := (HB.out.cell (p := ⟨g, _, none⟩) hgw).trans Y5.out
                go_wp2_with fail
                refine (CY.out _ HB.out).mono ?_
                rintro r w2 ⟨rfl, hb⟩
                have HB2 : Hid (Below w.heap.size w w2) := HB.out.trans (hb.mono HB.out.size)
                clear hb
                go_wp2_with fail
                go_ret
                exact ⟨rfl, HB2.out⟩
          · have e3 : ((e.kids.length : Int) == 2) = false := by simp only [beq_eq_false_iff_ne]; omega
            have hf : b = false := by rw [← h, not_two d e.kids h3, Bool.and_false]
            subst hf
            clear h h3 HN
            go_enter Tryz.func79, Tryz.ntmps79
            go_wp2_with fail
            go_ret
            exact ⟨rfl, (Below.refl _ _).alloc (Nat.le_refl _) _⟩
        · have d2 : decide (e.op ≤ 3) = false := by simp; omega
          rw [decide_eq_false (show ¬ (1 ≤ e.op ∧ e.op ≤ 3) from fun h => h2 h.2), Bool.false_and] at h
          subst h
          clear h2 HN
          go_enter Tryz.func79, Tryz.ntmps79
          go_wp2_with fail
          go_ret
          exact ⟨rfl, (Below.refl _ _).alloc (Nat.le_refl _) _⟩
      · have d1 : decide (1 ≤ e.op) = false := by simp; omega
        rw [decide_eq_false (show ¬ (1 ≤ e.op ∧ e.op ≤ 3) from fun h => h1 h.1), Bool.false_and] at h
        subst h
        clear h1 HN
        go_enter Tryz.func79, Tryz.ntmps79
        go_wp2_with fail
        go_ret
        exact ⟨rfl, (Below.refl _ _).alloc (Nat.le_refl _) _⟩
set_option maxRecDepth 100000 in
set_option maxHeartbeats 400000 in
theorem refExp_is (e : TEx) (A : Option Addr) (c : Nat) (b : Bool) (w : World) (h : rightE 20 e = b) (hV : ExV w e A) : Calls Tryz.prog 65 #[exV e A c] w fun r w' => r = .returned (.bool b) ∧ Below w.heap.size w w' := by
  have C := Lib.hid (refEx_is 20 e 20 A c b (w.alloc (.cells #[.int .i64 e.op, .string e.t.v, .int .i64 e.t.k, .int .i64 e.t.n, .string e.t.s, .slice A e.kids.length c] 94)) h rfl (by omega) (hV.below ((Below.refl _ _).alloc (Nat.le_refl _) _)))
  unfold exV at C ⊢
  clear h hV
  go_enter Tryz.func65, Tryz.ntmps65
  go_wp2_with fail
  refine C.out.mono ?_
  rintro r w' ⟨rfl, hb⟩
  have HB : Hid (Below w.heap.size w w') := ((Below.refl _ _).alloc (Nat.le_refl _) _).trans (hb.mono (by simp))
  clear hb
  go_wp2_with fail
  go_ret
  exact ⟨rfl, HB.out⟩
set_option maxRecDepth 100000 in
set_option maxHeartbeats 1000000 in
theorem refAm_is (a : TAm) (A : Option Addr) (c : Nat) (b : Bool) (w : World) (h : rightAm a = b) (hV : AmV w a A) : Calls Tryz.prog 44 #[amV a A c] w fun r w' => r = .returned (.bool b) ∧ Below w.heap.size w w' := by
  unfold amV
  unfold rightAm at h
  have H := Lib.hid h
  have hO : Own (w.alloc (.cells #[.string a.rel, .slice A a.args.length c] 67)) w.heap.size 67 [.string a.rel, .slice A a.args.length c] := heap_alloc_new _ _
  have HO := Lib.hid hO
  have HB0 : Hid (Below w.heap.size w (w.alloc (.cells #[.string a.rel, .slice A a.args.length c] 67))) := (Below.refl w.heap.size w).alloc (Nat.le_refl _) _
  have HV := Lib.hid hV
  have hlen := hV.row.1
  have hok := hV.ok
  have HQ : Hid (w.heap.size < (w.alloc (.cells #[.string a.rel, .slice A a.args.length c] 67)).heap.size) := by show _ < _; simp
  clear hO hV h
  go_enter Tryz.func44, Tryz.ntmps44
  go_wp2_with fail
  generalize hW0 : w.alloc (.cells #[.string a.rel, .slice A a.args.length c] 67) = W0 at HO HB0 HQ ⊢
  obtain ⟨b1, hb1⟩ : ∃ b, b = w.heap.size := ⟨_, rfl⟩
  rw [← hb1] at HO HQ
  rw [show (Value.pointer (some ⟨w.heap.size, 0, none⟩)) = .pointer (some ⟨b1, 0, none⟩) by rw [hb1]]
  clear hW0 hb1
  go_loopw [3] (fun i wr => ∃ j : Nat, j ≤ a.args.length ∧ j ≤ 6 ∧ i = .int .i64 j ∧ Hid (a.args.all rightTm = (a.args.drop j).all rightTm) ∧ Hid (Below W0.heap.size W0 wr)) (fun i _ => a.args.length - (intOf i).toNat)
  case atStart => exact ⟨0, Nat.zero_le _, by omega, rfl, Lib.hid rfl, Lib.hid (Below.refl _ _)⟩
  case round =>
    obtain ⟨j, hj, hj6, rfl, HX, HB⟩ := hrel
    have HO1 := HO.out.below HB.out
    have c0 := HO1.cell 0
    have c1 := HO1.cell 1
    simp only [List.getElem?_cons_zero, List.getElem?_cons_succ] at c0 c1
    have cq := HO1.lt
    clear HO1
    by_cases hlt : j < a.args.length
    · by_cases h6 : j ≤ 5
      · obtain ⟨g, o, rfl, hgw, t0, t1, t2, t3, hok2⟩ := HV.out.row.at_ hlt
        have t0 := ((HB0.out.trans (HB.out.mono HB0.out.size)).cell (p := ⟨g, _, none⟩) hgw).trans t0
        have t1 := ((HB0.out.trans (HB.out.mono HB0.out.size)).cell (p := ⟨g, _, none⟩) hgw).trans t1
        have t2 := ((HB0.out.trans (HB.out.mono HB0.out.size)).cell (p := ⟨g, _, none⟩) hgw).trans t2
        have t3 := ((HB0.out.trans (HB.out.mono HB0.out.size)).cell (p := ⟨g, _, none⟩) hgw).trans t3
        have HS : Hid ((a.args.drop j).all rightTm = (rightTm a.args[j] && (a.args.drop (j + 1)).all rightTm)) := by show _ = _; rw [List.drop_eq_getElem_cons hlt, List.all_cons]
        have HE := Lib.hid (HX.out.trans HS.out)
        have C : Hid (∀ W, Calls Tryz.prog 63 #[tmV a.args[j]] W fun r w' => r = .returned (.bool (rightTm a.args[j])) ∧ Below W.heap.size W w') := fun W => refTm_is a.args[j] _ W rfl hok2
        unfold tmV at C
        clear HS HX hok2
        generalize a.args[j] = y at *
        have d5 : decide (5 < j) = false := by simp; omega
        cases hb : rightTm y with
        | false =>
          rw [hb] at C HE
          rw [Bool.false_and] at HE
          clear hb
          go_wp2_with fail
          refine (C.out _).mono ?_
          rintro r w' ⟨rfl, hb⟩
          have HB' := HB.out.trans (hb.mono HB.out.size)
          have HBF := Lib.hid (HB0.out.trans (HB'.mono HB0.out.size))
          clear hb HB'
          go_wp2_with fail
          go_ret
          have HF : Hid (b = false) := by show _ = _; rw [← H.out, HE.out, Bool.and_false, Bool.and_false]
          exact ⟨by rw [HF.out]; rfl, HBF.out⟩
        | true =>
          rw [hb] at C HE
          rw [Bool.true_and] at HE
          clear hb
          go_wp2_with fail
          refine (C.out _).mono ?_
          rintro r w' ⟨rfl, hb⟩
          have HB' : Hid (Below W0.heap.size W0 w') := HB.out.trans (hb.mono HB.out.size)
          clear hb
          go_wp2_with fail
          go_roundw
          case rel => exact ⟨j + 1, by omega, by omega, by go_num, HE, HB'⟩
          case measure => simp [intOf]; omega
      · have d5 : decide (5 < j) = true := by simp; omega
        have HF : Hid (b = false) := by show _ = _; rw [← H.out, decide_eq_false (show ¬ a.args.length ≤ 6 by omega), Bool.false_and, Bool.and_false]
        have HBF := Lib.hid (HB0.out.trans (HB.out.mono HB0.out.size))
        clear HX
        go_wp2_with fail
        go_ret
        exact ⟨by rw [HF.out]; rfl, HBF.out⟩
    · have HN : Hid (soleB 2 a.rel = b) := by show _ = _; rw [← H.out, decide_eq_true (show a.args.length ≤ 6 by omega), HX.out, List.drop_eq_nil_of_le (by omega)]; simp
      have C : Hid (∀ W, Calls Tryz.prog 21 #[.string a.rel] W fun r w' => r = .returned (.bool b) ∧ Below W.heap.size W w') := fun W => refNamed_is a.rel b W HN.out hok
      clear HX HN
      go_wp2_with fail
      refine (C.out _).mono ?_
      rintro r w' ⟨rfl, hb⟩
      have HB' := HB.out.trans (hb.mono HB.out.size)
      have HBF := Lib.hid (HB0.out.trans (HB'.mono HB0.out.size))
      clear hb HB'
      go_wp2_with fail
      go_ret
      exact ⟨rfl, HBF.out⟩
end Go.Proofs.YtlfakhjcpdkaiaaGreatDoor

set_option linter.unusedVariables false
set_option linter.unusedSimpArgs false
namespace Go.Proofs.YtlfakhjcpdkaiaaGreatDoor
open Go.RowKit Go.Deep Go.Shelf

set_option maxRecDepth 100000 in
set_option maxHeartbeats 2000000 in
theorem refLt_is (x : TLt) (A : Option Addr) (c : Nat) (L : Option Addr) (d : Nat) (R : Option Addr) (f : Nat) (b : Bool) (w : World) (h : rightLt x = b) (hV : LtV w x A L R) :
    Calls Tryz.prog 45 #[ltV x A c L d R f] w fun r w' => r = .returned (.bool b) ∧ Below w.heap.size w w' := by
  unfold ltV
  unfold rightLt at h
  have hO : Own (w.alloc (.cells #[.int .i64 x.kind, .string x.atom.rel, .slice A x.atom.args.length c, .int .i64 x.op, .int .i64 x.left.op, .string x.left.t.v, .int .i64 x.left.t.k, .int .i64 x.left.t.n, .string x.left.t.s, .slice L x.left.kids.length d, .int .i64 x.right.op, .string x.right.t.v, .int .i64 x.right.t.k, .int .i64 x.right.t.n, .string x.right.t.s, .slice R x.right.kids.length f, .int .i64 x.pos] 96)) w.heap.size 96 [.int .i64 x.kind, .string x.atom.rel, .slice A x.atom.args.length c, .int .i64 x.op, .int .i64 x.left.op, .string x.left.t.v, .int .i64 x.left.t.k, .int .i64 x.left.t.n, .string x.left.t.s, .slice L x.left.kids.length d, .int .i64 x.right.op, .string x.right.t.v, .int .i64 x.right.t.k, .int .i64 x.right.t.n, .string x.right.t.s, .slice R x.right.kids.length f, .int .i64 x.pos] := heap_alloc_new _ _
  have HO0 := Lib.hid hO
  have HB0 : Hid (Below w.heap.size w (w.alloc (.cells #[.int .i64 x.kind, .string x.atom.rel, .slice A x.atom.args.length c, .int .i64 x.op, .int .i64 x.left.op, .string x.left.t.v, .int .i64 x.left.t.k, .int .i64 x.left.t.n, .string x.left.t.s, .slice L x.left.kids.length d, .int .i64 x.right.op, .string x.right.t.v, .int .i64 x.right.t.k, .int .i64 x.right.t.n, .string x.right.t.s, .slice R x.right.kids.length f, .int .i64 x.pos] 96))) := (Below.refl w.heap.size w).alloc (Nat.le_refl _) _
  have CA : Hid (∀ W, Below w.heap.size w W → Calls Tryz.prog 44 #[amV x.atom A c] W fun r w' => r = .returned (.bool (rightAm x.atom)) ∧ Below W.heap.size W w') := fun W hb => refAm_is x.atom A c _ W rfl (hV.am.below hb)
  have CZ1 : Hid (∀ W, Below w.heap.size w W → Calls Tryz.prog 64 #[exV x.left L d] W fun r w' => r = .returned (.bool (zeroE x.left)) ∧ Below W.heap.size W w') := fun W hb => refZero_is x.left L d _ W rfl
  have CZ2 : Hid (∀ W, Below w.heap.size w W → Calls Tryz.prog 64 #[exV x.right R f] W fun r w' => r = .returned (.bool (zeroE x.right)) ∧ Below W.heap.size W w') := fun W hb => refZero_is x.right R f _ W rfl
  have CE1 : Hid (∀ W, Below w.heap.size w W → Calls Tryz.prog 65 #[exV x.left L d] W fun r w' => r = .returned (.bool (rightE 20 x.left)) ∧ Below W.heap.size W w') := fun W hb => refExp_is x.left L d _ W rfl (hV.left.below hb)
  have CE2 : Hid (∀ W, Below w.heap.size w W → Calls Tryz.prog 65 #[exV x.right R f] W fun r w' => r = .returned (.bool (rightE 20 x.right)) ∧ Below W.heap.size W w') := fun W hb => refExp_is x.right R f _ W rfl (hV.right.below hb)
  unfold amV at CA
  unfold exV at CZ1 CZ2 CE1 CE2
  clear hV hO
  generalize rightAm x.atom = vA at h CA
  generalize zeroE x.left = vZ1 at h CZ1
  generalize zeroE x.right = vZ2 at h CZ2
  generalize rightE 20 x.left = vE1 at h CE1
  generalize rightE 20 x.right = vE2 at h CE2
  by_cases hk : x.kind = 1 ∨ x.kind = 2
  · rw [if_pos hk] at h
    have hk1 : ((x.kind == 1) = true) ∨ ((x.kind == 1) = false ∧ (x.kind == 2) = true) := by
      rcases hk with hk | hk
      · exact .inl (by simp [hk])
      · exact .inr ⟨by simp [hk], by simp [hk]⟩
    clear hk CE1 CE2
    cases vA with
    | false =>
      rw [Bool.false_and] at h
      subst h
      clear CZ1 CZ2
      rcases hk1 with e1 | ⟨e1, e2⟩
      all_goals
        go_enter Tryz.func45, Tryz.ntmps45
        go_wp2_with fail
        refine (CA.out _ HB0.out).mono ?_
        rintro r w1 ⟨rfl, hb⟩
        have HB1 : Hid (Below w.heap.size w w1) := HB0.out.trans (hb.mono HB0.out.size)
        have HO1 := Lib.hid (HO0.out.below hb)
        clear hb
        go_wp2_with fail
        go_ret
        exact ⟨rfl, HB1.out⟩
    | true =>
      rw [Bool.true_and] at h
      by_cases h2 : x.op = 0
      · have e3 : (x.op == 0) = true := by simp [h2]
        rw [decide_eq_true h2, Bool.true_and] at h
        clear h2
        cases vZ1 with
        | false =>
          rw [Bool.false_and] at h
          subst h
          clear CZ2
          rcases hk1 with e1 | ⟨e1, e2⟩
          all_goals
            go_enter Tryz.func45, Tryz.ntmps45
            go_wp2_with fail
            refine (CA.out _ HB0.out).mono ?_
            rintro r w1 ⟨rfl, hb⟩
            have HB1 : Hid (Below w.heap.size w w1) := HB0.out.trans (hb.mono HB0.out.size)
            have HO1 := Lib.hid (HO0.out.below hb)
            clear hb
            have c3 := HO1.out.cell 3
            have c4 := HO1.out.cell 4
            have c5 := HO1.out.cell 5
            have c6 := HO1.out.cell 6
            have c7 := HO1.out.cell 7
            have c8 := HO1.out.cell 8
            have c9 := HO1.out.cell 9
            simp only [List.getElem?_cons_zero, List.getElem?_cons_succ] at c3 c4 c5 c6 c7 c8 c9
            go_wp2_with fail
            refine (CZ1.out _ HB1.out).mono ?_
            rintro r w2 ⟨rfl, hb⟩
            have HB2 : Hid (Below w.heap.size w w2) := HB1.out.trans (hb.mono HB1.out.size)
            have HO2 := Lib.hid (HO1.out.below hb)
            clear hb c3 c4 c5 c6 c7 c8 c9
            go_wp2_with fail
            go_ret
            exact ⟨rfl, HB2.out⟩
        | true =>
          rw [Bool.true_and] at h
          subst h
          rcases hk1 with e1 | ⟨e1, e2⟩
          all_goals
            go_enter Tryz.func45, Tryz.ntmps45
            go_wp2_with fail
            refine (CA.out _ HB0.out).mono ?_
            rintro r w1 ⟨rfl, hb⟩
            have HB1 : Hid (Below w.heap.size w w1) := HB0.out.trans (hb.mono HB0.out.size)
            have HO1 := Lib.hid (HO0.out.below hb)
            clear hb
            have c3 := HO1.out.cell 3
            have c4 := HO1.out.cell 4
            have c5 := HO1.out.cell 5
            have c6 := HO1.out.cell 6
            have c7 := HO1.out.cell 7
            have c8 := HO1.out.cell 8
            have c9 := HO1.out.cell 9
            simp only [List.getElem?_cons_zero, List.getElem?_cons_succ] at c3 c4 c5 c6 c7 c8 c9
            go_wp2_with fail
            refine (CZ1.out _ HB1.out).mono ?_
            rintro r w2 ⟨rfl, hb⟩
            have HB2 : Hid (Below w.heap.size w w2) := HB1.out.trans (hb.mono HB1.out.size)
            have HO2 := Lib.hid (HO1.out.below hb)
            clear hb c3 c4 c5 c6 c7 c8 c9
            have c10 := HO2.out.cell 10
            have c11 := HO2.out.cell 11
            have c12 := HO2.out.cell 12
            have c13 := HO2.out.cell 13
            have c14 := HO2.out.cell 14
            have c15 := HO2.out.cell 15
            simp only [List.getElem?_cons_zero, List.getElem?_cons_succ] at c10 c11 c12 c13 c14 c15
            go_wp2_with fail
            refine (CZ2.out _ HB2.out).mono ?_
            rintro r w3 ⟨rfl, hb⟩
            have HB3 : Hid (Below w.heap.size w w3) := HB2.out.trans (hb.mono HB2.out.size)
            have HO3 := Lib.hid (HO2.out.below hb)
            clear hb c10 c11 c12 c13 c14 c15
            go_wp2_with fail
            go_ret
            exact ⟨rfl, HB3.out⟩
      · have e3 : (x.op == 0) = false := by simp [h2]
        rw [decide_eq_false h2, Bool.false_and] at h
        subst h
        clear h2 CZ1 CZ2
        rcases hk1 with e1 | ⟨e1, e2⟩
        all_goals
          go_enter Tryz.func45, Tryz.ntmps45
          go_wp2_with fail
          refine (CA.out _ HB0.out).mono ?_
          rintro r w1 ⟨rfl, hb⟩
          have HB1 : Hid (Below w.heap.size w w1) := HB0.out.trans (hb.mono HB0.out.size)
          have HO1 := Lib.hid (HO0.out.below hb)
          clear hb
          have c3 := HO1.out.cell 3
          simp only [List.getElem?_cons_zero, List.getElem?_cons_succ] at c3
          go_wp2_with fail
          go_ret
          exact ⟨rfl, HB1.out⟩
  · rw [if_neg hk] at h
    have e1 : (x.kind == 1) = false := by
      rw [beq_eq_false_iff_ne]
      exact fun e => hk (.inl e)
    have e2 : (x.kind == 2) = false := by
      rw [beq_eq_false_iff_ne]
      exact fun e => hk (.inr e)
    clear hk CA CZ1 CZ2
    by_cases h3 : x.kind = 3
    · rw [if_pos h3] at h
      have e3 : (x.kind == 3) = true := by simp [h3]
      unfold zeroAm at h
      clear h3
      by_cases h4 : x.atom.rel.size = 0
      · have e4 := beq0 h4
        rw [decide_eq_true h4, Bool.true_and] at h
        by_cases h5 : x.atom.args.length = 0
        · have e5 := beq0 h5
          rw [decide_eq_true h5, Bool.true_and] at h
          by_cases h6 : 1 ≤ x.op
          · have d6 : decide (1 ≤ x.op) = true := by simpa using h6
            by_cases h7 : x.op ≤ 6
            · have d7 : decide (x.op ≤ 6) = true := by simpa using h7
              rw [decide_eq_true (show 1 ≤ x.op ∧ x.op ≤ 6 from ⟨h6, h7⟩), Bool.true_and] at h
              clear h4 h5
              cases vE1 with
              | false =>
                rw [Bool.false_and] at h
                subst h
                clear CE2
                go_enter Tryz.func45, Tryz.ntmps45
                go_wp2_with fail
                refine (CE1.out _ HB0.out).mono ?_
                rintro r w1 ⟨rfl, hb⟩
                have HB1 : Hid (Below w.heap.size w w1) := HB0.out.trans (hb.mono HB0.out.size)
                have HO1 := Lib.hid (HO0.out.below hb)
                clear hb
                go_wp2_with fail
                go_ret
                exact ⟨rfl, HB1.out⟩
              | true =>
                rw [Bool.true_and] at h
                subst h
                go_enter Tryz.func45, Tryz.ntmps45
                go_wp2_with fail
                refine (CE1.out _ HB0.out).mono ?_
                rintro r w1 ⟨rfl, hb⟩
                have HB1 : Hid (Below w.heap.size w w1) := HB0.out.trans (hb.mono HB0.out.size)
                have HO1 := Lib.hid (HO0.out.below hb)
                clear hb
                have c10 := HO1.out.cell 10
                have c11 := HO1.out.cell 11
                have c12 := HO1.out.cell 12
                have c13 := HO1.out.cell 13
                have c14 := HO1.out.cell 14
                have c15 := HO1.out.cell 15
                simp only [List.getElem?_cons_zero, List.getElem?_cons_succ] at c10 c11 c12 c13 c14 c15
                go_wp2_with fail
                refine (CE2.out _ HB1.out).mono ?_
                rintro r w2 ⟨rfl, hb⟩
                have HB2 : Hid (Below w.heap.size w w2) := HB1.out.trans (hb.mono HB1.out.size)
                have HO2 := Lib.hid (HO1.out.below hb)
                clear hb c10 c11 c12 c13 c14 c15
                go_wp2_with fail
                go_ret
                exact ⟨rfl, HB2.out⟩
            · have d7 : decide (x.op ≤ 6) = false := by simp; omega
              rw [decide_eq_false (show ¬ (1 ≤ x.op ∧ x.op ≤ 6) from fun h => h7 h.2), Bool.false_and] at h
              subst h
              clear h4 h5 h7 CE1 CE2
              go_enter Tryz.func45, Tryz.ntmps45
              go_wp2_with fail
              go_ret
              exact ⟨rfl, (Below.refl _ _).alloc (Nat.le_refl _) _⟩
          · have d6 : decide (1 ≤ x.op) = false := by simp; omega
            rw [decide_eq_false (show ¬ (1 ≤ x.op ∧ x.op ≤ 6) from fun h => h6 h.1), Bool.false_and] at h
            subst h
            clear h4 h5 h6 CE1 CE2
            go_enter Tryz.func45, Tryz.ntmps45
            go_wp2_with fail
            go_ret
            exact ⟨rfl, (Below.refl _ _).alloc (Nat.le_refl _) _⟩
        · have e5 := beq0_not h5
          rw [decide_eq_false h5, Bool.false_and] at h
          subst h
          clear h4 h5 CE1 CE2
          go_enter Tryz.func45, Tryz.ntmps45
          go_wp2_with fail
          go_ret
          exact ⟨rfl, (Below.refl _ _).alloc (Nat.le_refl _) _⟩
      · have e4 := beq0_not h4
        rw [decide_eq_false h4, Bool.false_and, Bool.false_and] at h
        subst h
        clear h4 CE1 CE2
        go_enter Tryz.func45, Tryz.ntmps45
        go_wp2_with fail
        go_ret
        exact ⟨rfl, (Below.refl _ _).alloc (Nat.le_refl _) _⟩
    · rw [if_neg h3] at h
      have e3 : (x.kind == 3) = false := by simp [h3]
      subst h
      clear h3 CE1 CE2
      go_enter Tryz.func45, Tryz.ntmps45
      go_wp2_with fail
      go_ret
      exact ⟨rfl, (Below.refl _ _).alloc (Nat.le_refl _) _⟩
end Go.Proofs.YtlfakhjcpdkaiaaGreatDoor
