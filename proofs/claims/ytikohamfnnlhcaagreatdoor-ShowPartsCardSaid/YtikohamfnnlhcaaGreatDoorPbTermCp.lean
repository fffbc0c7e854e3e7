/- Lists copied into new memory: what is kept of each element, and where it lies. Conditions: none. -/
import Derived.Test.YtikohamfnnlhcaaGreatDoorPbTermEb
set_option linter.unusedVariables false
set_option linter.unusedSimpArgs false
namespace Go.Proofs.YtikohamfnnlhcaaGreatDoor
open Go.RowKit Go.Deep Go.Shelf

/-- a fact that stays while such blocks stay. -/
def Stab (w : World) (P : Nat → Prop) (F : World → Prop) : Prop := ∀ w', w.heap.size ≤ w'.heap.size → (∀ k, k < w.heap.size → P k → w'.heap[k]? = w.heap[k]?) → F w'
section
variable {w w' : World} {P P' : Nat → Prop} {F G : World → Prop}
theorem Stab.here (h : Stab w P F) : F w := h w (Nat.le_refl _) (fun _ _ _ => rfl)
theorem Stab.keep (h : Stab w P F) (hs : w.heap.size ≤ w'.heap.size) (hk : ∀ k, k < w.heap.size → P k → w'.heap[k]? = w.heap[k]?) (hP : ∀ k, k < w.heap.size → P k → P' k) : Stab w' P' F :=
  fun w2 h2 hk2 => h w2 (Nat.le_trans hs h2) (fun k hkw hp => (hk2 k (Nat.lt_of_lt_of_le hkw hs) (hP k hkw hp)).trans (hk k hkw hp))
theorem Stab.below (h : Stab w P F) (hb : Below w.heap.size w w') : Stab w' P F := h.keep hb.size (fun k hk _ => hb.block k hk) (fun _ _ h => h)
theorem Stab.more (h : Stab w P F) (hP : ∀ k, k < w.heap.size → P k → P' k) : Stab w P' F := h.keep (Nat.le_refl _) (fun _ _ _ => rfl) hP
theorem Stab.imp (h : Stab w P F) (hi : ∀ W, F W → G W) : Stab w P G := fun w' h1 h2 => hi _ (h w' h1 h2)
theorem Stab.and (h : Stab w P F) (h' : Stab w P G) : Stab w P (fun W => F W ∧ G W) := fun w' h1 h2 => ⟨h w' h1 h2, h' w' h1 h2⟩
/-- what stays whatever is made. -/
theorem Stab.old {n : Nat} (hF : ∀ W, Pers w W → F W) : Stab w (fun k => k < w.heap.size) F := fun w' h1 h2 =>
  hF w' ⟨h1, fun p v hp => by
    have hb := World.block_lt_of_cell? w p hp
    exact (World.cell?_of_block (w := w) (h2 p.block hb hb)).trans hp⟩
end
/-- a row of the call's own: the cells of its elements, and what is known of each. -/
structure GR {α : Type} (K : Nat) (E : TypeId) (F : World → List Value → α → Prop) (B0 base : Nat) (v : Value) (xs : List α) (css : List (List Value)) (W : World) : Prop where
  own : W.ownsRow base E K v xs.length css.flatten
  len : css.length = xs.length
  each : ∀ cs ∈ css, cs.length = K
  fact : ∀ (i : Nat) x cs, xs[i]? = some x → css[i]? = some cs → Stab W (fun k => (k < B0 ∨ base ≤ k) ∧ some k ≠ v.ownBlock) (fun W => F W cs x)
theorem flat_at {K : Nat} : ∀ (css : List (List Value)), (∀ cs ∈ css, cs.length = K) → ∀ (i : Nat) cs, css[i]? = some cs → ∀ j, j < K → css.flatten[i * K + j]? = cs[j]?
  | [], _, i, cs, h, _, _ => by cases h
  | c :: r, hK, 0, cs, h, j, hj => by
    simp only [List.getElem?_cons_zero, Option.some.injEq] at h
    subst h
    rw [List.flatten_cons, Nat.zero_mul, Nat.zero_add]
    exact List.getElem?_append_left (by rw [hK c (by simp)]; exact hj)
  | c :: r, hK, i + 1, cs, h, j, hj => by
    simp only [List.getElem?_cons_succ] at h
    have hc := hK c (by simp)
    rw [← flat_at r (fun x hx => hK x (by simp [hx])) i cs h j hj, List.flatten_cons, List.getElem?_append_right (by rw [hc, Nat.add_mul]; omega), hc]
    congr 1
    rw [Nat.add_mul]
    omega
section
variable {α : Type} {K : Nat} {E : TypeId} {F : World → List Value → α → Prop} {B0 base : Nat} {v : Value} {xs : List α} {css : List (List Value)} {W W' : World}
theorem GR.nil (W : World) : GR K E F B0 base (.slice none 0 0) [] [] W := ⟨World.ownsRow_nil _ _ _ _, rfl, (fun cs h => by cases h), (fun i x cs h => by cases h)⟩
theorem GR.kept {S : List Nat} (h : GR K E F B0 base v xs css W) (hk : Kept S W W') (hS : ∀ k ∈ S, B0 ≤ k ∧ k < base) : GR K E F B0 base v xs css W' :=
  ⟨owns_off h.own hk (fun k hs => (hS k hs).2), h.len, h.each, fun i x cs h1 h2 => (h.fact i x cs h1 h2).keep hk.size (fun k hkw hp => hk.block k hkw (fun hs => by have := hS k hs; have := hp.1; omega)) (fun _ _ h => h)⟩
theorem GR.below (h : GR K E F B0 base v xs css W) (hb : Below W.heap.size W W') : GR K E F B0 base v xs css W' := h.kept (Kept.of [] hb) (fun _ h => by cases h)
theorem GR.box (h : GR K E F B0 base v xs css W) {p : Addr} (h1 : B0 ≤ p.block) (h2 : p.block < base) (u : Value) : GR K E F B0 base v xs css (W.setCell p u) :=
  h.kept (S := [p.block]) ((Kept.refl _ W).setCell (.inl (by simp)) u) (fun k hk => by simp only [List.mem_singleton] at hk; subst hk; exact ⟨h1, h2⟩)
theorem GR.lt (h : GR K E F B0 base v xs css W) : ∀ k, v.ownBlock = some k → base ≤ k ∧ k < W.heap.size := h.own.lt
theorem GR.val (h : GR K E F B0 base v xs css W) : ∃ A c, v = .slice A xs.length c := by
  obtain ⟨A, c, h1, _⟩ := own_valueM h.own
  exact ⟨A, c, h1⟩
theorem GR.app {P : Program} {S : TypeId} (h : GR K E F B0 base v xs css W) (hu : P.underlying S = some (.slice E)) {z : Value} {bytes : Nat} (hi : (P.info? E).map (fun i => (i.zero, i.size, i.bytes)) = some (some z, K, bytes)) (hzs : z.cells.size = K) (hK : 0 < K)
    (x : α) (cs : List Value) (hcl : cs.length = K) (h1 : ∀ u ∈ cs, u.oneCell' = true) {b : Nat} {T : TypeId} (hO : Own W b T cs) (hx : Stab W (fun k => (k < B0 ∨ base ≤ k) ∧ some k ≠ v.ownBlock) (fun W => F W cs x))
    (hlen : xs.length ≤ 100000) (hby : bytes ≤ 1000) (hbase : base ≤ W.heap.size) :
    ∃ v' w', (Builtin.append_ #[S, S] S #[v, .slice (some ⟨b, 0, none⟩) 1 1]).run P W = .ok v' w' ∧ GR K E F B0 base v' (xs ++ [x]) (css ++ [cs]) w' ∧ W.grownBy w' v.ownBlock ∧ (v'.ownBlock = v.ownBlock ∨ v'.ownBlock = some W.heap.size) := by
  obtain ⟨i, hi, hz, hs1, hb⟩ := info_parts hi
  have hcells : ∀ j u, cs[j]? = some u → W.cell? ((⟨b, 0, none⟩ : Addr).add j) = some u := fun j u hu => by
    rw [Addr.add_lit, Nat.zero_add, hO.cell]
    exact hu
  have hbb : (xs.length + 1) * bytes ≤ 140737488355328 := Nat.le_trans (Nat.mul_le_mul (by omega : xs.length + 1 ≤ 100001) hby) (by decide)
  obtain ⟨v', w', g1, g2, g3, _, g5⟩ := run_append_own_at (P := P) W base S S E i z K bytes hu hi hz hs1 hb hzs hK v xs.length css.flatten h.own ⟨b, 0, none⟩ 1 1 cs (by omega) hcells h1 (by unfold maxLen; omega) hbb hbase
  have hP : ∀ k, k < W.heap.size → ((k < B0 ∨ base ≤ k) ∧ some k ≠ v.ownBlock) → ((k < B0 ∨ base ≤ k) ∧ some k ≠ v'.ownBlock) := fun k hk hp => ⟨hp.1, fun e => by
    rcases g5 with h5 | h5
    · rw [h5] at e; exact hp.2 e
    · rw [h5] at e; injection e with e; omega⟩
  refine ⟨v', w', g1, ⟨?_, by simp [h.len], ?_, ?_⟩, g3, g5⟩
  · rw [List.length_append, List.flatten_append, List.flatten_singleton]
    exact g2
  · intro c hc
    rcases List.mem_append.1 hc with hc | hc
    · exact h.each c hc
    · simp only [List.mem_singleton] at hc
      subst hc
      exact hcl
  · intro i y c h2 h3
    by_cases hi : i < xs.length
    · rw [List.getElem?_append_left hi] at h2
      rw [List.getElem?_append_left (by rw [h.len]; exact hi)] at h3
      exact (h.fact i y c h2 h3).keep g3.size (fun k hk hp => g3.block k hk hp.2) hP
    · rw [List.getElem?_append_right (by omega)] at h2
      rw [List.getElem?_append_right (by rw [h.len]; omega)] at h3
      have hlt := (List.getElem?_eq_some_iff.1 h2).1
      have h0 : i - xs.length = 0 := by simp at hlt; omega
      have h0' : i - css.length = 0 := by rw [h.len]; exact h0
      rw [h0] at h2
      rw [h0'] at h3
      simp only [List.getElem?_cons_zero, Option.some.injEq] at h2 h3
      subst h2 h3
      exact hx.keep g3.size (fun k hk hp => g3.block k hk hp.2) hP
/-- the row, told as any row. -/
theorem GR.rg {Q : World → Nat → Nat → α → Prop} {A : Option Addr} {c n : Nat} (h : GR K E F B0 base (.slice A n c) xs css W) (hn : n = xs.length)
    (hQ : ∀ (W : World) b o x cs, cs.length = K → (∀ (j : Nat) u, cs[j]? = some u → W.cell? ⟨b, o + j, none⟩ = some u) → F W cs x → Q W b o x) (hl : xs.length ≤ 140737488351232) :
    Stab W (fun k => k < B0 ∨ base ≤ k) (fun W => Rg K Q W A xs) := by
  subst hn
  intro w' hs hk
  refine ⟨hl, fun h0 => ?_⟩
  rcases h.own.2 with ⟨_, h2⟩ | ⟨g, cap, cur, h1, hg, hc, hcap, _, hcs, htake⟩
  · omega
  · injection h1 with h1 _ _
    subst h1
    have hgw : g < W.heap.size := (Array.getElem?_eq_some_iff.1 hc).1
    have hg' := hk g hgw (.inr hg)
    refine ⟨g, 0, rfl, Nat.lt_of_lt_of_le hgw hs, fun i y hy => ?_⟩
    have hil := (List.getElem?_eq_some_iff.1 hy).1
    have hcl : i < css.length := by rw [h.len]; exact hil
    have hci := List.getElem?_eq_getElem hcl
    have hK := h.each _ (List.getElem_mem hcl)
    refine hQ w' g (0 + i * K) y css[i] hK (fun j u hu => ?_) (h.fact i y _ hy hci w' hs (fun k hkw hp => hk k hkw hp.1))
    have hj : j < K := by have := (List.getElem?_eq_some_iff.1 hu).1; omega
    have e1 : w'.cell? ⟨g, 0 + i * K + j, none⟩ = W.cell? ⟨g, 0 + i * K + j, none⟩ := World.cell?_of_block (w := W) hg'
    have hle : i * K + j < xs.length * K := by
      have : (i + 1) * K ≤ xs.length * K := Nat.mul_le_mul_right K hil
      rw [Nat.add_mul] at this
      omega
    rw [e1, cell_of_row W g _ cur _ (0, 0) hc, ← hu, ← flat_at css h.each i _ hci j hj, ← htake, List.getElem?_take, if_pos hle, Nat.zero_add]
    simp
end
/-- what is known of the cells of each kind of thing. -/
def FTm (_ : World) (cs : List Value) (t : TTm) : Prop := cs = [.string t.v, .int .i64 t.k, .int .i64 t.n, .string t.s] ∧ okTm t
def ltL (x : TLt) (A : Option Addr) (c : Nat) (L : Option Addr) (d : Nat) (R : Option Addr) (f : Nat) : List Value :=
  [.int .i64 x.kind, .string x.atom.rel, .slice A x.atom.args.length c, .int .i64 x.op, .int .i64 x.left.op, .string x.left.t.v, .int .i64 x.left.t.k, .int .i64 x.left.t.n, .string x.left.t.s, .slice L x.left.kids.length d,
    .int .i64 x.right.op, .string x.right.t.v, .int .i64 x.right.t.k, .int .i64 x.right.t.n, .string x.right.t.s, .slice R x.right.kids.length f, .int .i64 x.pos]
def FLt (w : World) (cs : List Value) (x : TLt) : Prop := ∃ A c L d R f, cs = ltL x A c L d R f ∧ LtV w x A L R
def FRu (w : World) (cs : List Value) (r : TRu) : Prop := ∃ A c B d, cs = [.string r.head.rel, .slice A r.head.args.length c, .int .i64 r.agg, .int .i64 r.col, .slice B r.body.length d, .int .i64 r.pos] ∧ RuV w r A B
def FDe (w : World) (cs : List Value) (d : TDe) : Prop := ∃ A c, cs = [.string d.rel, .slice A d.kinds.length c, .int .i64 d.pos] ∧ Rg 1 IntC w A d.kinds ∧ d.rel.size ≤ 140737488351232
theorem FTm.c (W : World) (b o : Nat) (x : TTm) (cs : List Value) (_ : cs.length = 4) (h : ∀ (j : Nat) u, cs[j]? = some u → W.cell? ⟨b, o + j, none⟩ = some u) (hF : FTm W cs x) : TmC W b o x := by
  obtain ⟨rfl, ho⟩ := hF
  exact ⟨h 0 _ rfl, h 1 _ rfl, h 2 _ rfl, h 3 _ rfl, ho⟩
theorem FLt.c (W : World) (b o : Nat) (x : TLt) (cs : List Value) (_ : cs.length = 17) (h : ∀ (j : Nat) u, cs[j]? = some u → W.cell? ⟨b, o + j, none⟩ = some u) (hF : FLt W cs x) : LtC W b o x := by
  obtain ⟨A, c, L, d, R, f, rfl, hV⟩ := hF
  exact LtC.shut (A := A) (c := c) (L := L) (d := d) (R := R) (f := f) ⟨h 0 _ rfl, h 1 _ rfl, h 2 _ rfl, h 3 _ rfl, ⟨h 4 _ rfl, h 5 _ rfl, h 6 _ rfl, h 7 _ rfl, h 8 _ rfl, h 9 _ rfl⟩, ⟨h 10 _ rfl, h 11 _ rfl, h 12 _ rfl, h 13 _ rfl, h 14 _ rfl, h 15 _ rfl⟩, h 16 _ rfl⟩ hV
theorem FRu.c (W : World) (b o : Nat) (x : TRu) (cs : List Value) (_ : cs.length = 6) (h : ∀ (j : Nat) u, cs[j]? = some u → W.cell? ⟨b, o + j, none⟩ = some u) (hF : FRu W cs x) : RuC W b o x := by
  obtain ⟨A, c, B, d, rfl, hV⟩ := hF
  exact RuC.shut (h 0 _ rfl) (h 1 _ rfl) (h 2 _ rfl) (h 3 _ rfl) (h 4 _ rfl) (h 5 _ rfl) hV
theorem FDe.c (W : World) (b o : Nat) (x : TDe) (cs : List Value) (_ : cs.length = 3) (h : ∀ (j : Nat) u, cs[j]? = some u → W.cell? ⟨b, o + j, none⟩ = some u) (hF : FDe W cs x) : DeC W b o x := by
  obtain ⟨A, c, rfl, hR, hl⟩ := hF
  exact ⟨h 0 _ rfl, ⟨A, c, h 1 _ rfl, hR⟩, h 2 _ rfl, hl⟩
end Go.Proofs.YtikohamfnnlhcaaGreatDoor
