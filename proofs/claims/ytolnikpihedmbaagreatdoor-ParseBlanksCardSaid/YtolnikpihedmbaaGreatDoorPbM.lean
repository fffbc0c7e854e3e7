/- Rows that grow in a box, while the reader reads; an atom's terms, a declaration's kinds. Conditions: as ParE's. Two rows that grow by turns. Conditions: none. The reader's atoms and declarations. Conditions: as ParE's. -/
import Derived.Test.YtolnikpihedmbaaGreatDoorPbK
import Derived.Test.YtolnikpihedmbaaGreatDoorPbI
import Derived.Deep.RegionLaw
set_option linter.unusedVariables false
set_option linter.unusedSimpArgs false
namespace Go.Proofs.YtolnikpihedmbaaGreatDoor
open Go.RowKit Go.Deep Go.Shelf

/-- what stays below a block, but for the reader. -/
structure Kb (R B : Nat) (w w' : World) : Prop where
  os : w'.os = w.os
  tape : w'.tape = w.tape
  output : w'.output = w.output
  size : w.heap.size ≤ w'.heap.size
  block : ∀ k, k < B → k ≠ R → w'.heap[k]? = w.heap[k]?
section
variable {R B : Nat} {a w w' : World}
theorem Kb.refl (R B : Nat) (w : World) : Kb R B w w := ⟨rfl, rfl, rfl, Nat.le_refl _, fun _ _ _ => rfl⟩
theorem Kb.tr (h : Kb R B a w) (h' : Kb R B w w') : Kb R B a w' := ⟨h'.os.trans h.os, h'.tape.trans h.tape, h'.output.trans h.output, Nat.le_trans h.size h'.size, fun k hk hn => (h'.block k hk hn).trans (h.block k hk hn)⟩
theorem Kb.of (h : Below B w w') : Kb R B w w' := ⟨h.os, h.tape, h.output, h.size, fun k hk _ => h.block k hk⟩
theorem Kr.kb (h : Kr R w w') (hB : B ≤ w.heap.size) : Kb R B w w' := ⟨h.os, h.tape, h.output, h.size, fun k hk hn => h.block k (by omega) (by simpa using hn)⟩
theorem Kr.kbs (h : Kr R a w) (h' : Kb R B w w') (hB : a.heap.size ≤ B) : Kr R a w' := ⟨h'.os.trans h.os, h'.tape.trans h.tape, h'.output.trans h.output, Nat.le_trans h.size h'.size, fun k hk hn => (h'.block k (by omega) (by simpa using hn)).trans (h.block k hk hn)⟩
theorem Kb.own {b : Nat} {T : TypeId} {xs : List Value} (h : Kb R B w w') (ho : Own w b T xs) (hb : b < B) (hn : b ≠ R) : Own w' b T xs := (h.block b hb hn).trans ho
end
/-- a row that grows in a box's cell i. -/
structure Acc {α : Type} (K : Nat) (E T : TypeId) (F : World → List Value → α → Prop) (base bx i : Nat) (cells : List Value) (vv : Value) (xs : List α) (W : World) : Prop where
  own : Own W bx T cells
  at_ : cells[i]? = some vv
  row : ∃ css, GR K E F 0 base vv xs css W
  lb : bx < base
  sz : base ≤ W.heap.size
section
variable {α : Type} {K : Nat} {E T : TypeId} {F : World → List Value → α → Prop} {base bx i R : Nat} {cells : List Value} {vv : Value} {xs : List α} {W W' : World}
theorem Acc.below (h : Acc K E T F base bx i cells vv xs W) (hb : Below W.heap.size W W') : Acc K E T F base bx i cells vv xs W' := by
  obtain ⟨h1, h2, ⟨css, h3⟩, h4, h5⟩ := h
  exact ⟨h1.below hb, h2, ⟨css, h3.below hb⟩, h4, Nat.le_trans h5 hb.size⟩
theorem Acc.kr (h : Acc K E T F base bx i cells vv xs W) (hk : Kr R W W') (hR : R < bx) : Acc K E T F base bx i cells vv xs W' := by
  obtain ⟨h1, h2, ⟨css, h3⟩, h4, h5⟩ := h
  exact ⟨hk.own h1 (by simp; omega), h2, ⟨css, h3.kept hk (fun k hk => by simp only [List.mem_singleton] at hk; omega)⟩, h4, Nat.le_trans h5 hk.size⟩
theorem Acc.val (h : Acc K E T F base bx i cells vv xs W) : ∃ A c, vv = .slice A xs.length c := by
  obtain ⟨css, h3⟩ := h.row
  exact h3.val
theorem Acc.ownLt (h : Acc K E T F base bx i cells vv xs W) : ∀ k, vv.ownBlock = some k → base ≤ k ∧ k < W.heap.size := by
  obtain ⟨css, h3⟩ := h.row
  exact h3.lt
/-- one append. -/
theorem Acc.app {P : Program} {S : TypeId} (h : Acc K E T F base bx i cells vv xs W) (hu : P.underlying S = some (.slice E)) {z : Value} {bytes : Nat} (hi : (P.info? E).map (fun i => (i.zero, i.size, i.bytes)) = some (some z, K, bytes)) (hzs : z.cells.size = K) (hK : 0 < K)
    (x : α) (cs : List Value) (hcl : cs.length = K) (h1 : ∀ u ∈ cs, u.oneCell' = true) {b : Nat} {T' : TypeId} (hO : Own W b T' cs) (hx : Stab W (fun k => base ≤ k ∧ some k ≠ vv.ownBlock) (fun W => F W cs x)) (hlen : xs.length ≤ 100000) (hby : bytes ≤ 1000) :
    ∃ A c W', (Builtin.append_ #[S, S] S #[vv, .slice (some ⟨b, 0, none⟩) 1 1]).run P W = .ok (.slice A (xs.length + 1) c) W' ∧ Own W' bx T cells ∧ Below base W W' ∧
      (∀ k, k < W.heap.size → some k ≠ vv.ownBlock → W'.heap[k]? = W.heap[k]?) ∧
      Acc K E T F base bx i (cells.set i (.slice A (xs.length + 1) c)) (.slice A (xs.length + 1) c) (xs ++ [x]) (W'.setCell ⟨bx, i, none⟩ (.slice A (xs.length + 1) c)) := by
  obtain ⟨h2, h3, ⟨css, h4⟩, h5, h6⟩ := h
  obtain ⟨v', W', g1, g2, g3, _⟩ := h4.app hu hi hzs hK x cs hcl h1 hO (hx.more (fun k hk hp => ⟨.inr hp.1, hp.2⟩)) hlen hby h6
  obtain ⟨A, c, hv⟩ := g2.val
  rw [List.length_append, List.length_singleton] at hv
  subst hv
  have hown : ∀ k, vv.ownBlock = some k → base ≤ k := fun k hk => (h4.lt k hk).1
  have k5 : Kept vv.ownBlock.toList W W' := Kept.grown g3 (fun k hk => by rw [hk]; simp)
  have hn : ∀ k, k < base → k ∉ vv.ownBlock.toList := fun k hk hm => by have := hown k (by simpa using hm); omega
  have ho := k5.own h2 (hn bx h5)
  have s3 : Kept [bx] W' (W'.setCell ⟨bx, i, none⟩ (.slice A (xs.length + 1) c)) := (Kept.refl [bx] W').setCell (.inl (by simp)) _
  have hi' : i < cells.length := (List.getElem?_eq_some_iff.1 h3).1
  refine ⟨A, c, W', g1, ho, k5.below h6 (fun k hk => hown k (by simpa using hk)), g3.block, ⟨ho.set i _, ?_, ⟨css ++ [cs], g2.kept s3 (fun k hk => by simp only [List.mem_singleton] at hk; omega)⟩, h5, ?_⟩⟩
  · rw [List.getElem?_set_self hi']
  · have := k5.size
    have := s3.size
    omega
/-- another cell of the box is turned. -/
theorem Acc.put (h : Acc K E T F base bx i cells vv xs W) {j : Nat} (hj : j ≠ i) (u : Value) : Acc K E T F base bx i (cells.set j u) vv xs (W.setCell ⟨bx, j, none⟩ u) := by
  obtain ⟨h2, h3, ⟨css, h4⟩, h5, h6⟩ := h
  have s3 : Kept [bx] W (W.setCell ⟨bx, j, none⟩ u) := (Kept.refl [bx] W).setCell (.inl (by simp)) _
  exact ⟨h2.set j u, by rw [List.getElem?_set_ne hj]; exact h3, ⟨css, h4.kept s3 (fun k hk => by simp only [List.mem_singleton] at hk; omega)⟩, h5, Nat.le_trans h6 s3.size⟩
theorem Acc.start (hO : Own W bx T cells) (h3 : cells[i]? = some (.slice none 0 0)) (hlb : bx < base) (hsz : base ≤ W.heap.size) : Acc K E T F base bx i cells (.slice none 0 0) [] W := ⟨hO, h3, ⟨[], GR.nil W⟩, hlb, hsz⟩
end
theorem infoTtm3 : (Tryz.prog.info? 57).map (fun i => (i.zero, i.size, i.bytes)) = some (some (.agg #[.string noText, .int .i64 0, .int .i64 0, .string noText]), 4, 48) := by kernel_rfl
theorem infoKd3 : (Tryz.prog.info? 53).map (fun i => (i.zero, i.size, i.bytes)) = some (some (.int .i64 0), 1, 8) := by kernel_rfl
/-- an atom's terms, as far as they are read. -/
def JA (R bx : Nat) (rel : ByteArray) (W0 : World) (n : Nat) (xs : List TTm) (W : World) : Prop := xs.length = n ∧ (∃ vv, Acc 4 57 33 FTm (bx + 1) bx 1 [.string rel, vv] vv xs W) ∧ Kb R bx W0 W
set_option maxRecDepth 100000 in
set_option maxHeartbeats 4000000 in
theorem atom1_any (R e bx br : Nat) (rel : ByteArray) (W0 : World) (n : Nat) (xs : List TTm) (s : PS) (W : World) (hn : n ≤ 6) (h : Rdr R e W s) (c1 : W.cell? ⟨br, 0, none⟩ = some (.pointer (some ⟨R, 0, none⟩))) (hbr : br ≠ R) (hR : R < bx) (hJ : JA R bx rel W0 n xs W) :
    Calls Tryz.prog 90 #[.pointer (some ⟨bx, 0, none⟩), .pointer (some ⟨br, 0, none⟩)] W fun r W' => r = .returned (.tuple #[]) ∧ Rdr R e W' (argM e xs s).2 ∧ JA R bx rel W0 (n + 1) (argM e xs s).1 W' := by
  obtain ⟨hl, ⟨vv, hA⟩, hK⟩ := hJ
  have HA := Lib.hid hA
  have HK := Lib.hid hK
  have H := Lib.hid h
  have HT := Lib.hid (fun w (h : Rdr R e w s) => term_any R e s w h)
  have x1 := hA.own.cell 1
  have xq := hA.own.lt
  have b1 := World.block_lt_of_cell? W _ c1
  simp only [List.getElem?_cons_zero, List.getElem?_cons_succ] at x1 b1
  have HL := Lib.hid hl
  unfold argM
  generalize termM e s = q at *
  obtain ⟨t, s2⟩ := q
  simp only at HT ⊢
  clear hA hK h hl
  go_enter Tryz.func90, Tryz.ntmps90
  go_wp2_with fail
  have HWX : Hid (Below W.heap.size W W.drew) := (Below.refl _ _).drew
  go_region_law (first
    | (refine step_run (o := ⟨some 7, _, _, _, _, _⟩) rfl (.tmp 3) (.tmp 6) 31 rfl rfl _ _ rfl rfl hrun ?_)
    | (refine step_call (o := ⟨some 5, _, _, _, _, _⟩) rfl (f := 79) (args := #[.pointer (some ⟨R, 0, none⟩)]) (by simp only [execOp, resolve, Act.eval, List.map_toArray, List.map_cons, List.map_nil]; kernel_rfl) ((HT.out _ (H.out.below HWX.out)).mono ?_)
       rintro r w3 ⟨rfl, hok, r3, k3⟩
       refine ⟨_, rfl, ?_⟩
       have kr3 : Kr R W w3 := Kr.tr (Kr.of HWX.out) k3
       have ha3 := HA.out.kr kr3 hR
       have ha4 := ha3.below ((Below.refl w3.heap.size w3).alloc (o := .cells #[.string t.v, .int .i64 t.k, .int .i64 t.n, .string t.s] 57) (Nat.le_refl _))
       have hst : Stab (w3.alloc (.cells #[.string t.v, .int .i64 t.k, .int .i64 t.n, .string t.s] 57)) (fun k => bx + 1 ≤ k ∧ some k ≠ vv.ownBlock) (fun W => FTm W [.string t.v, .int .i64 t.k, .int .i64 t.n, .string t.s] t) := fun W' _ _ => ⟨rfl, hok⟩
       obtain ⟨A5, c5, w5, hrun, ho5, hb5, _, hN5⟩ := ha4.app (P := Tryz.prog) (S := 31) Tryz.underlying31 infoTtm3 rfl (by decide) t [.string t.v, .int .i64 t.k, .int .i64 t.n, .string t.s] rfl (by simp [Value.oneCell']) (heap_alloc_new _ _) hst (by rw [HL.out]; omega) (by decide)
       have z1 := ha3.own.cell 1
       have zq := ha3.own.lt
       have y1 := ho5.cell 1
       have yf := ho5.frozen 1
       have yq := ho5.lt
       simp only [List.getElem?_cons_zero, List.getElem?_cons_succ] at z1 y1
       have HN := Lib.hid hN5
       have hbA : Below bx w3 (w3.alloc (.cells #[.string t.v, .int .i64 t.k, .int .i64 t.n, .string t.s] 57)) := (Below.refl _ _).alloc (by omega) _
       have hbB : Below bx w5 (w5.setCell ⟨bx, 1, none⟩ (.slice A5 (xs.length + 1) c5)) := (Below.refl _ _).setCell (p := ⟨bx, 1, none⟩) (Nat.le_refl _) _
       have hbC := (hbA.trans (hb5.mono (by omega))).trans hbB
       have HRd := Lib.hid (r3.low (hbC.mono (by omega)))
       have HKb := Lib.hid ((HK.out.tr (kr3.kb (by omega))).tr (Kb.of hbC))
       clear hN5 ha3 ha4 hst hok r3 k3 kr3 hbA hbB hbC hb5 ho5))
  all_goals
    go_wp2
    go_end0
    exact ⟨rfl, HRd.out, by show _ = _; simp [HL.out], ⟨_, HN.out⟩, HKb.out⟩
end Go.Proofs.YtolnikpihedmbaaGreatDoor

set_option linter.unusedVariables false
set_option linter.unusedSimpArgs false
namespace Go.Proofs.YtolnikpihedmbaaGreatDoor
open Go.RowKit Go.Deep Go.Shelf

/-- a row of the call's own beside others: what each element says depends on none of them. -/
structure GX {α : Type} (K : Nat) (E : TypeId) (F : World → List Value → α → Prop) (base : Nat) (X : Nat → Prop) (v : Value) (xs : List α) (css : List (List Value)) (W : World) : Prop where
  own : W.ownsRow base E K v xs.length css.flatten
  len : css.length = xs.length
  each : ∀ cs ∈ css, cs.length = K
  fact : ∀ (i : Nat) x cs, xs[i]? = some x → css[i]? = some cs → Stab W (fun k => base ≤ k ∧ ¬ X k) (fun W => F W cs x)
theorem owns_blk {w w' : World} {base n k : Nat} {e : TypeId} {v : Value} {xs : List Value} (h : w.ownsRow base e k v n xs) (hk : ∀ g, v.ownBlock = some g → w'.heap[g]? = w.heap[g]?) : w'.ownsRow base e k v n xs :=
  ⟨h.1, h.2.imp id fun ⟨g, cap, cur, h1, h2, h3, h4⟩ => ⟨g, cap, cur, h1, h2, (hk g (by rw [h1]; rfl)).trans h3, h4⟩⟩
section
variable {α : Type} {K : Nat} {E : TypeId} {F : World → List Value → α → Prop} {base : Nat} {X X' : Nat → Prop} {v : Value} {xs : List α} {css : List (List Value)} {W W' : World}
theorem GX.nil (W : World) : GX K E F base X (.slice none 0 0) [] [] W := ⟨World.ownsRow_nil _ _ _ _, rfl, (fun cs h => by cases h), (fun i x cs h => by cases h)⟩
theorem GX.keep (h : GX K E F base X v xs css W) (hs : W.heap.size ≤ W'.heap.size) (ho : ∀ g, v.ownBlock = some g → W'.heap[g]? = W.heap[g]?) (hk : ∀ k, k < W.heap.size → base ≤ k → ¬ X k → W'.heap[k]? = W.heap[k]?) (hX : ∀ k, k < W.heap.size → ¬ X k → ¬ X' k) :
    GX K E F base X' v xs css W' :=
  ⟨owns_blk h.own ho, h.len, h.each, fun i x cs h1 h2 => (h.fact i x cs h1 h2).keep hs (fun k hk1 hp => hk k hk1 hp.1 hp.2) (fun k hk1 hp => ⟨hp.1, hX k hk1 hp.2⟩)⟩
theorem GX.val (h : GX K E F base X v xs css W) : ∃ A c, v = .slice A xs.length c := by
  obtain ⟨A, c, h1, _⟩ := own_valueM h.own
  exact ⟨A, c, h1⟩
theorem GX.rg {Q : World → Nat → Nat → α → Prop} {A : Option Addr} {c n : Nat} (h : GX K E F base X (.slice A n c) xs css W) (hn : n = xs.length)
    (hQ : ∀ (W : World) b o x cs, cs.length = K → (∀ (j : Nat) u, cs[j]? = some u → W.cell? ⟨b, o + j, none⟩ = some u) → F W cs x → Q W b o x) (hl : xs.length ≤ 140737488351232) :
    Stab W (fun k => base ≤ k) (fun W => Rg K Q W A xs) := by
  subst hn
  intro w' hs hk
  refine ⟨hl, fun h0 => ?_⟩
  rcases h.own.2 with ⟨_, h2⟩ | ⟨g, cap, cur, h1, hg, hc, hcap, _, hcs, htake⟩
  · omega
  · injection h1 with h1 _ _
    subst h1
    have hgw : g < W.heap.size := (Array.getElem?_eq_some_iff.1 hc).1
    have hg' := hk g hgw hg
    refine ⟨g, 0, rfl, Nat.lt_of_lt_of_le hgw hs, fun i y hy => ?_⟩
    have hil := (List.getElem?_eq_some_iff.1 hy).1
    have hcl : i < css.length := by rw [h.len]; exact hil
    have hci := List.getElem?_eq_getElem hcl
    have hK := h.each _ (List.getElem_mem hcl)
    refine hQ w' g (0 + i * K) y css[i] hK (fun j u hu => ?_) (h.fact i y _ hy hci w' hs (fun k hkw hp => hk k hkw hp.1))
    have hj : j < K := by have := (List.getElem?_eq_some_iff.1 hu).1; omega
    have e1 : w'.cell? ⟨g, 0 + i * K + j, none⟩ = W.cell? ⟨g, 0 + i * K + j, none⟩ := World.cell?_of_block (w := W) hg'
    have hle : i * K + j < xs.length * K := by
      have : (i + 1) * K ≤ xs.length * K := Nat.mul_le_mul_right K hil
      rw [Nat.add_mul] at this
      omega
    rw [e1, cell_of_row W g _ cur _ (0, 0) hc, ← hu, ← flat_at css h.each i _ hci j hj, ← htake, List.getElem?_take, if_pos hle, Nat.zero_add]
    simp
end
/-- two of them. -/
structure Two {α β : Type} (K : Nat) (E : TypeId) (F : World → List Value → α → Prop) (K' : Nat) (E' : TypeId) (F' : World → List Value → β → Prop) (base : Nat) (v : Value) (xs : List α) (v' : Value) (ys : List β) (W : World) : Prop where
  fst : ∃ css, GX K E F base (fun k => some k = v.ownBlock ∨ some k = v'.ownBlock) v xs css W
  snd : ∃ css, GX K' E' F' base (fun k => some k = v.ownBlock ∨ some k = v'.ownBlock) v' ys css W
  sep : ∀ k, v.ownBlock = some k → v'.ownBlock ≠ some k
section
variable {α β : Type} {K : Nat} {E : TypeId} {F : World → List Value → α → Prop} {K' : Nat} {E' : TypeId} {F' : World → List Value → β → Prop} {base : Nat} {v v' : Value} {xs : List α} {ys : List β} {W W' : World}
theorem Two.swap (h : Two K E F K' E' F' base v xs v' ys W) : Two K' E' F' K E F base v' ys v xs W := by
  obtain ⟨⟨c1, h1⟩, ⟨c2, h2⟩, h3⟩ := h
  exact ⟨⟨c2, h2.keep (Nat.le_refl _) (fun _ _ => rfl) (fun _ _ _ _ => rfl) (fun k _ hn ho => hn ho.symm)⟩, ⟨c1, h1.keep (Nat.le_refl _) (fun _ _ => rfl) (fun _ _ _ _ => rfl) (fun k _ hn ho => hn ho.symm)⟩, fun k hk hk' => h3 k hk' hk⟩
theorem Two.kb (h : Two K E F K' E' F' base v xs v' ys W) (hs : W.heap.size ≤ W'.heap.size) (hk : ∀ k, k < W.heap.size → base ≤ k → W'.heap[k]? = W.heap[k]?) : Two K E F K' E' F' base v xs v' ys W' := by
  obtain ⟨⟨c1, h1⟩, ⟨c2, h2⟩, h3⟩ := h
  exact ⟨⟨c1, h1.keep hs (fun g hg => hk g (h1.own.lt g hg).2 (h1.own.lt g hg).1) (fun k h1 h2 _ => hk k h1 h2) (fun _ _ h => h)⟩, ⟨c2, h2.keep hs (fun g hg => hk g (h2.own.lt g hg).2 (h2.own.lt g hg).1) (fun k h1 h2 _ => hk k h1 h2) (fun _ _ h => h)⟩, h3⟩
theorem Two.ownLt (h : Two K E F K' E' F' base v xs v' ys W) : ∀ k, (some k = v.ownBlock ∨ some k = v'.ownBlock) → base ≤ k ∧ k < W.heap.size := by
  obtain ⟨⟨c1, h1⟩, ⟨c2, h2⟩, h3⟩ := h
  rintro k (hk | hk)
  · exact h1.own.lt k hk.symm
  · exact h2.own.lt k hk.symm
theorem Two.app {P : Program} {S : TypeId} (h : Two K E F K' E' F' base v xs v' ys W) (hu : P.underlying S = some (.slice E)) {z : Value} {bytes : Nat} (hi : (P.info? E).map (fun i => (i.zero, i.size, i.bytes)) = some (some z, K, bytes)) (hzs : z.cells.size = K) (hK : 0 < K)
    (x : α) (cs : List Value) (hcl : cs.length = K) (h1 : ∀ u ∈ cs, u.oneCell' = true) {b : Nat} {T' : TypeId} (hO : Own W b T' cs) (hx : Stab W (fun k => base ≤ k ∧ ¬ (some k = v.ownBlock ∨ some k = v'.ownBlock)) (fun W => F W cs x)) (hlen : xs.length ≤ 100000) (hby : bytes ≤ 1000) (hbase : base ≤ W.heap.size) :
    ∃ A c W', (Builtin.append_ #[S, S] S #[v, .slice (some ⟨b, 0, none⟩) 1 1]).run P W = .ok (.slice A (xs.length + 1) c) W' ∧ Two K E F K' E' F' base (.slice A (xs.length + 1) c) (xs ++ [x]) v' ys W' ∧ Below base W W' := by
  obtain ⟨⟨c1, g1⟩, ⟨c2, g2⟩, hsep⟩ := h
  obtain ⟨i, hi, hz, hs1, hb⟩ := info_parts hi
  have hcells : ∀ j u, cs[j]? = some u → W.cell? ((⟨b, 0, none⟩ : Addr).add j) = some u := fun j u hu => by
    rw [Addr.add_lit, Nat.zero_add, hO.cell]
    exact hu
  have hbb : (xs.length + 1) * bytes ≤ 140737488355328 := Nat.le_trans (Nat.mul_le_mul (by omega : xs.length + 1 ≤ 100001) hby) (by decide)
  obtain ⟨v2, w', r1, r2, r3, _, r5⟩ := run_append_own_at (P := P) W base S S E i z K bytes hu hi hz hs1 hb hzs hK v xs.length c1.flatten g1.own ⟨b, 0, none⟩ 1 1 cs (by omega) hcells h1 (by unfold maxLen; omega) hbb hbase
  obtain ⟨A, c, hv, _⟩ := own_valueM r2
  subst hv
  have hP : ∀ k, k < W.heap.size → ¬ (some k = v.ownBlock ∨ some k = v'.ownBlock) → ¬ (some k = (Value.slice A (xs.length + 1) c).ownBlock ∨ some k = v'.ownBlock) := fun k hk hp ho => by
    rcases ho with ho | ho
    · rcases r5 with h5 | h5
      · rw [h5] at ho; exact hp (.inl ho)
      · rw [h5] at ho; injection ho with e; omega
    · exact hp (.inr ho)
  have hkeep : ∀ k, k < W.heap.size → base ≤ k → ¬ (some k = v.ownBlock ∨ some k = v'.ownBlock) → w'.heap[k]? = W.heap[k]? := fun k hk _ hp => r3.block k hk (fun e => hp (.inl e))
  have hown := g1.own.lt
  refine ⟨A, c, w', r1, ⟨⟨c1 ++ [cs], ?_, by simp [g1.len], ?_, ?_⟩, ⟨c2, g2.keep r3.size (fun g hg => r3.block g (g2.own.lt g hg).2 (fun e => hsep g e.symm hg)) hkeep hP⟩, ?_⟩, ?_⟩
  · rw [List.length_append, List.flatten_append, List.flatten_singleton]
    exact r2
  · intro d hd
    rcases List.mem_append.1 hd with hd | hd
    · exact g1.each d hd
    · simp only [List.mem_singleton] at hd
      subst hd
      exact hcl
  · intro i y d h2 h3
    by_cases hi : i < xs.length
    · rw [List.getElem?_append_left hi] at h2
      rw [List.getElem?_append_left (by rw [g1.len]; exact hi)] at h3
      exact (g1.fact i y d h2 h3).keep r3.size (fun k hk hp => hkeep k hk hp.1 hp.2) (fun k hk hp => ⟨hp.1, hP k hk hp.2⟩)
    · rw [List.getElem?_append_right (by omega)] at h2
      rw [List.getElem?_append_right (by rw [g1.len]; omega)] at h3
      have hlt := (List.getElem?_eq_some_iff.1 h2).1
      have h0 : i - xs.length = 0 := by simp at hlt; omega
      have h0' : i - c1.length = 0 := by rw [g1.len]; exact h0
      rw [h0] at h2
      rw [h0'] at h3
      simp only [List.getElem?_cons_zero, Option.some.injEq] at h2 h3
      subst h2 h3
      exact hx.keep r3.size (fun k hk hp => hkeep k hk hp.1 hp.2) (fun k hk hp => ⟨hp.1, hP k hk hp.2⟩)
  · intro k hk hk'
    rcases r5 with h5 | h5
    · rw [h5] at hk; exact hsep k hk hk'
    · rw [h5] at hk
      injection hk with e
      have := (g2.own.lt k hk').2
      omega
  · have k5 : Kept v.ownBlock.toList W w' := Kept.grown r3 (fun k hk => by rw [hk]; simp)
    exact k5.below hbase (fun k hk => (hown k (by simpa using hk)).1)
end
end Go.Proofs.YtolnikpihedmbaaGreatDoor

set_option linter.unusedVariables false
set_option linter.unusedSimpArgs false
namespace Go.Proofs.YtolnikpihedmbaaGreatDoor
open Go.RowKit Go.Deep Go.Shelf

def FK (_ : World) (cs : List Value) (n : Int) : Prop := cs = [.int .i64 n]
theorem FK.c (W : World) (b o : Nat) (x : Int) (cs : List Value) (_ : cs.length = 1) (h : ∀ (j : Nat) u, cs[j]? = some u → W.cell? ⟨b, o + j, none⟩ = some u) (hF : FK W cs x) : IntC W b o x := by
  cases hF
  exact h 0 _ rfl
/-- a declaration's kinds, as far as they are read. -/
def JD (R bx : Nat) (rel : ByteArray) (pos : Int) (W0 : World) (n : Nat) (xs : List Int) (W : World) : Prop := xs.length = n ∧ (∃ vv, Acc 1 53 70 FK (bx + 1) bx 1 [.string rel, vv, .int .i64 pos] vv xs W) ∧ Kb R bx W0 W
set_option maxRecDepth 100000 in
set_option maxHeartbeats 4000000 in
theorem decl1_any (R e bx br : Nat) (rel : ByteArray) (pos : Int) (W0 : World) (n : Nat) (xs : List Int) (s : PS) (W : World) (hn : n ≤ 6) (h : Rdr R e W s) (c1 : W.cell? ⟨br, 0, none⟩ = some (.pointer (some ⟨R, 0, none⟩))) (hbr : br ≠ R) (hR : R < bx) (hJ : JD R bx rel pos W0 n xs W) :
    Calls Tryz.prog 53 #[.pointer (some ⟨bx, 0, none⟩), .pointer (some ⟨br, 0, none⟩)] W fun r W' => r = .returned (.tuple #[]) ∧ Rdr R e W' (kindM e xs s).2 ∧ JD R bx rel pos W0 (n + 1) (kindM e xs s).1 W' := by
  obtain ⟨hl, ⟨vv, hA⟩, hK⟩ := hJ
  have HA := Lib.hid hA
  have HK := Lib.hid hK
  have H := Lib.hid h
  have HT := Lib.hid (fun w (h : Rdr R e w s) => needOne_any R e 1 s w h)
  have x1 := hA.own.cell 1
  have xq := hA.own.lt
  have b1 := World.block_lt_of_cell? W _ c1
  simp only [List.getElem?_cons_zero, List.getElem?_cons_succ] at x1 b1
  have HL := Lib.hid hl
  unfold kindM
  generalize need1 e s 1 = s2 at *
  generalize (got1 e s 1 : Int) = t at *
  simp only
  clear hA hK h hl
  go_enter Tryz.func53, Tryz.ntmps53
  go_wp2_with fail
  have HWX : Hid (Below W.heap.size W W.drew) := (Below.refl _ _).drew
  go_region_law (first
    | (refine step_run (o := ⟨some 7, _, _, _, _, _⟩) rfl (.tmp 3) (.tmp 6) 68 rfl rfl _ _ rfl rfl hrun ?_)
    | (refine step_call (o := ⟨some 5, _, _, _, _, _⟩) rfl (f := 54) (args := #[.pointer (some ⟨R, 0, none⟩), .int .i64 1]) (by simp only [execOp, resolve, Act.eval, List.map_toArray, List.map_cons, List.map_nil]; kernel_rfl) ((HT.out _ (H.out.below HWX.out)).mono ?_)
       rintro r w3 ⟨rfl, r3, k3⟩
       refine ⟨_, rfl, ?_⟩
       have kr3 : Kr R W w3 := Kr.tr (Kr.of HWX.out) k3
       have ha3 := HA.out.kr kr3 hR
       have ha4 := ha3.below ((Below.refl w3.heap.size w3).alloc (o := .cells #[.int .i64 t] 53) (Nat.le_refl _))
       have hst : Stab (w3.alloc (.cells #[.int .i64 t] 53)) (fun k => bx + 1 ≤ k ∧ some k ≠ vv.ownBlock) (fun W => FK W [.int .i64 t] t) := fun W' _ _ => rfl
       obtain ⟨A5, c5, w5, hrun, ho5, hb5, _, hN5⟩ := ha4.app (P := Tryz.prog) (S := 68) Tryz.underlying68 infoKd3 rfl (by decide) t [.int .i64 t] rfl (by simp [Value.oneCell']) (heap_alloc_new _ _) hst (by rw [HL.out]; omega) (by decide)
       have z1 := ha3.own.cell 1
       have zq := ha3.own.lt
       have y1 := ho5.cell 1
       have yf := ho5.frozen 1
       have yq := ho5.lt
       simp only [List.getElem?_cons_zero, List.getElem?_cons_succ] at z1 y1
       have HN := Lib.hid hN5
       have hbA : Below bx w3 (w3.alloc (.cells #[.int .i64 t] 53)) := (Below.refl _ _).alloc (by omega) _
       have hbB : Below bx w5 (w5.setCell ⟨bx, 1, none⟩ (.slice A5 (xs.length + 1) c5)) := (Below.refl _ _).setCell (p := ⟨bx, 1, none⟩) (Nat.le_refl _) _
       have hbC := (hbA.trans (hb5.mono (by omega))).trans hbB
       have HRd := Lib.hid (r3.low (hbC.mono (by omega)))
       have HKb := Lib.hid ((HK.out.tr (kr3.kb (by omega))).tr (Kb.of hbC))
       clear hN5 ha3 ha4 hst r3 k3 kr3 hbA hbB hbC hb5 ho5))
  all_goals
    go_wp2
    go_end0
    exact ⟨rfl, HRd.out, by show _ = _; simp [HL.out], ⟨_, HN.out⟩, HKb.out⟩
theorem infoAtm : (Tryz.prog.info? 33).map (·.size) = some 2 := by kernel_rfl
/-- what reading an atom leaves. -/
def GotAm (R e : Nat) (W : World) (q : TAm × PS) (r : Ending) (W' : World) : Prop :=
  ∃ A c, r = .returned (amV q.1 A c) ∧ Stab W' (fun k => W.heap.size ≤ k) (fun W => AmV W q.1 A) ∧ Rdr R e W' q.2 ∧ Kr R W W'
set_option maxRecDepth 100000 in
set_option maxHeartbeats 2000000 in
theorem atom_read (R e : Nat) (s : PS) (w : World) (h : Rdr R e w s) :
    Calls Tryz.prog 80 #[.pointer (some ⟨R, 0, none⟩)] w (GotAm R e w (atomM e s)) := by
  have hRw := h.lt
  have hb : Below w.heap.size w ((w.alloc (.cells #[.pointer (some ⟨R, 0, none⟩)] 66)).alloc (.cells #[.string noText, .slice none 0 0] 33)) := ((Below.refl _ _).alloc (Nat.le_refl _) _).alloc (by simp) _
  have o1 : Own (w.alloc (.cells #[.pointer (some ⟨R, 0, none⟩)] 66)) w.heap.size 66 [.pointer (some ⟨R, 0, none⟩)] := heap_alloc_new _ _
  have o2 := heap_alloc_new (w.alloc (.cells #[.pointer (some ⟨R, 0, none⟩)] 66)) (.cells #[.string noText, .slice none 0 0] 33)
  simp only [World.size_alloc] at o2
  have HO1 := Lib.hid (o1.alloc (.cells #[.string noText, .slice none 0 0] 33))
  have HO2 : Hid (Own ((w.alloc (.cells #[.pointer (some ⟨R, 0, none⟩)] 66)).alloc (.cells #[.string noText, .slice none 0 0] 33)) (w.heap.size + 1) 33 [.string noText, .slice none 0 0]) := o2
  have HNK := Lib.hid (needKind_any R e 2 (by decide) s _ (h.below hb))
  have HTx := Lib.hid (txt_ok (e := e) (k := 2) (by decide) h.tok)
  have HB := Lib.hid hb
  have hmf := hmf_any
  have hE : atomM e s = (⟨bts (needK e s 2).1, (listM e (argM e) [] (needK e s 2).2).1⟩, (listM e (argM e) [] (needK e s 2).2).2) := rfl
  rw [hE]
  generalize needK e s 2 = q at *
  obtain ⟨nt, s1⟩ := q
  simp only at HNK HTx ⊢
  generalize bts nt = nm at *
  clear h hb o1 o2 hE
  go_enter Tryz.func80, Tryz.ntmps80
  go_wp2_with fail
  refine HNK.out.mono ?_
  rintro r w1 ⟨rfl, r1, k1⟩
  have hs1 : w.heap.size + 2 ≤ w1.heap.size := by have := k1.size; simp at this; omega
  have hbx : Below w1.heap.size w1 (w1.alloc (.cells #[.string nm, .slice none 0 0] 33)) := (Below.refl _ _).alloc (Nat.le_refl _) _
  have ho1 := (k1.own HO1.out (by simp; omega)).below hbx
  have ho2 := (k1.own HO2.out (by simp; omega)).below hbx
  have hob : Own (w1.alloc (.cells #[.string nm, .slice none 0 0] 33)) w1.heap.size 33 [.string nm, .slice none 0 0] := heap_alloc_new _ _
  have kw : Kr R w (w1.alloc (.cells #[.string nm, .slice none 0 0] 33)) := Kr.tr (Kr.of HB.out) (k1.then hbx)
  have c1 := ho1.cell 0
  simp only [List.getElem?_cons_zero] at c1
  have HLs := Lib.hid (list_any R e 90 #[.pointer (some ⟨w1.heap.size, 0, none⟩), .pointer (some ⟨w.heap.size, 0, none⟩)] (argM e) (JA R w1.heap.size nm (w1.alloc (.cells #[.string nm, .slice none 0 0] 33))) [] s1 _ (r1.below hbx) (enters_of Tryz.func90 (by kernel_rfl) rfl)
    (fun n a s' W' hn hr hj => atom1_any R e w1.heap.size w.heap.size nm _ n a s' W' hn hr ((World.cell?_of_block (w := w1.alloc (.cells #[.string nm, .slice none 0 0] 33)) (hj.2.2.block _ (by show w.heap.size < _; omega) (by show w.heap.size ≠ R; omega))).trans c1) (by omega) (by omega) hj)
    (fun n a W1 W2 hj hk => ⟨hj.1, (by obtain ⟨vv, hv⟩ := hj.2.1; exact ⟨vv, hv.kr hk (by omega)⟩), hj.2.2.tr (hk.kb (by obtain ⟨vv, hv⟩ := hj.2.1; exact Nat.le_of_lt hv.own.lt))⟩)
    argM_st ⟨rfl, ⟨_, Acc.start hob rfl (Nat.lt_succ_self _) (by simp)⟩, Kb.refl _ _ _⟩)
  have HO2' := Lib.hid ho2
  have KW := Lib.hid kw
  obtain ⟨bx, hbxe⟩ : ∃ b, b = w1.heap.size := ⟨_, rfl⟩
  have HBx := Lib.hid hbxe
  have hs2 : w.heap.size + 2 ≤ bx := by omega
  rw [← hbxe] at HLs
  clear r1 k1 hbx ho1 ho2 hob kw HNK HO1 HO2 hs1 hbxe
  generalize listM e (argM e) [] s1 = q at *
  obtain ⟨args, s2⟩ := q
  go_wp2_with fail
  rw [show (Value.pointer (some ⟨w1.heap.size, 0, none⟩)) = .pointer (some ⟨bx, 0, none⟩) by rw [HBx.out]]
  refine HLs.out.mono ?_
  rintro r w2 ⟨rfl, r2, n, hn, hl, ⟨vv, ha⟩, kb⟩
  obtain ⟨A, c, rfl⟩ := ha.val
  obtain ⟨css, hg⟩ := ha.row
  simp only at r2 hl ha hg ⊢
  have hO := Lib.hid ha.own
  have hO2 := Lib.hid (kb.own HO2'.out (by omega) (by omega))
  have hst := hg.rg rfl FTm.c (by omega)
  have R2 := Lib.hid (r2.setRow (b := w.heap.size + 1) (by omega) #[.string nm, .slice A args.length c])
  have K2 := Lib.hid (Kept.setRow (KW.out.kbs kb (by omega)) (b := w.heap.size + 1) (.inr (by omega)) #[.string nm, .slice A args.length c])
  have ST : Hid (Stab (w2.setRow (w.heap.size + 1) #[.string nm, .slice A args.length c]) (fun k => w.heap.size ≤ k) (fun W => AmV W ⟨nm, args⟩ A)) := (hst.imp (G := fun W => AmV W ⟨nm, args⟩ A) (fun W h => ⟨HTx.out, h⟩)).keep (by simp) (fun k hk hp => setRow_other w2 _ k _ (by omega)) (fun k hk hp => by omega)
  clear r2 ha hg kb hst HLs
  go_wp2_with (first
    | (refine wpList_load_row (o := ⟨some 10, _, _, _, _, _⟩) rfl 33 _ rfl bx rfl 33 #[.string nm, .slice A args.length c] (0, 0) _ hO.out Tryz.underlying33 rfl infoAtm ?_)
    | (refine wpList_store_row (o := ⟨none, .store 33 _ _, _, _, _, _⟩) rfl 33 _ _ rfl (w.heap.size + 1) #[.string nm, .slice A args.length c] rfl rfl 33 _ hO2.out infoAtm rfl (by simp [Value.oneCell']) ?_)
    | fail)
  refine bodyPost_ret (v := .agg #[.string nm, .slice A args.length c]) (results_cell_row (P := Tryz.prog) rfl _ _ (w.heap.size + 1) 33 _ (0, 0) _ rfl (hO2.out.setRow [.string nm, .slice A args.length c]) Tryz.underlying33 rfl infoAtm) rfl ?_
  exact ⟨A, c, rfl, ST.out, R2.out, K2.out⟩
end Go.Proofs.YtolnikpihedmbaaGreatDoor
