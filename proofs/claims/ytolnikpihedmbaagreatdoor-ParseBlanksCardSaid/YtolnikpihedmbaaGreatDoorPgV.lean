/- The law's copies of an atom, a literal, a rule and a program in the document's form. Conditions: sizes of at most 30,000. Slices of terms that a call makes in a box: what is known of them; one term more; a literal's terms. Conditions: literals of at most 30,000 nodes. A region that draws its order and whose operations each make a value and new memory at most, but for the last one: what is known of each value holds, whatever the order. Conditions: as the law says. The chapter's example. Conditions: none. The law's copy of a literal in the document's form. Conditions: at most 30,000 nodes and terms. The document's literals, rules and programs: which rules are right. Conditions: texts of at most 2^47 bytes. Package term's Same: lists, declarations, atoms, expressions, literals, rules, programs. Conditions: none. -/
import Derived.Test.YtolnikpihedmbaaGreatDoorPbH
import Derived.Test.YtolnikpihedmbaaGreatDoorPgH
import Derived.Test.YtolnikpihedmbaaGreatDoorPbG
import Derived.Test.YtolnikpihedmbaaGreatDoorPbE
import Derived.Test.YtolnikpihedmbaaGreatDoorPgE
import Derived.Test.YtolnikpihedmbaaGreatDoorPbF
import Derived.Test.YtolnikpihedmbaaGreatDoorPbD
import Derived.Test.YtolnikpihedmbaaGreatDoorPbC
import Derived.Test.YtolnikpihedmbaaGreatDoorPbA
import Derived.Test.YtolnikpihedmbaaGreatDoorRows
import Derived.Test.YtolnikpihedmbaaGreatDoorPbB
import Derived.Test.YtolnikpihedmbaaGreatDoorPgA
import Derived.Test.YtolnikpihedmbaaGreatDoorShelf
import Derived.Test.YtolnikpihedmbaaGreatDoorShelfA
import Derived.Test.YtolnikpihedmbaaGreatDoorPbTermJ
import Derived.Test.YtolnikpihedmbaaGreatDoorPbTermI
import Derived.Test.YtolnikpihedmbaaGreatDoorPbTermH
import Derived.Test.YtolnikpihedmbaaGreatDoorPbJ
import Derived.Test.YtolnikpihedmbaaGreatDoorPbTermL
import Derived.Test.YtolnikpihedmbaaGreatDoorPbTermK
import Derived.Maps.OwnIn
import Derived.Maps.AppendAt
import Derived.RegionTactic
import Derived.Maps.OwnSet
import Derived.SliceStrings
import Derived.StringKeys
set_option linter.unusedVariables false
set_option linter.unusedSimpArgs false
namespace Go.Proofs.YtolnikpihedmbaaGreatDoor
open Go.RowKit Go.Deep Go.Shelf

/-- a round's state: the copy so far, in a box of its own. -/
structure CpI {α : Type} (K : Nat) (E T : TypeId) (F : World → List Value → α → Prop) (n0 bs : Nat) (w : World) (b2 b3 : Nat) (zs cells : List Value) (vv : Value) (xs : List α) (css : List (List Value)) (W : World) : Prop where
  own : Own W b3 T cells
  res : Own W b2 T zs
  row : GR K E F n0 bs vv xs css W
  old : n0 ≤ w.heap.size
  lb : b3 < bs
  sz : bs ≤ W.heap.size
  bel : Below w.heap.size w W
  lo : w.heap.size ≤ b2
  lt : b2 < b3
section
variable {α : Type} {K : Nat} {E T : TypeId} {F : World → List Value → α → Prop} {n0 bs : Nat} {w : World} {b2 b3 : Nat} {zs cells : List Value} {vv : Value} {xs : List α} {css : List (List Value)} {W W' : World}
theorem CpI.below (h : CpI K E T F n0 bs w b2 b3 zs cells vv xs css W) (hb : Below W.heap.size W W') : CpI K E T F n0 bs w b2 b3 zs cells vv xs css W' :=
  ⟨h.own.below hb, h.res.below hb, h.row.below hb, h.old, h.lb, Nat.le_trans h.sz hb.size, h.bel.trans (hb.mono h.bel.size), h.lo, h.lt⟩
theorem CpI.step {v' : Value} {xs' : List α} {css' : List (List Value)} (h : CpI K E T F n0 bs w b2 b3 zs cells vv xs css W) (hr : GR K E F n0 bs v' xs' css' W') (hg : W.grownBy W' vv.ownBlock) (i : Nat) :
    CpI K E T F n0 bs w b2 b3 zs (cells.set i v') v' xs' css' (W'.setCell ⟨b3, i, none⟩ v') ∧ ∀ k, k < bs → k ≠ b3 → (W'.setCell ⟨b3, i, none⟩ v').heap[k]? = W.heap[k]? := by
  have hown : ∀ k, vv.ownBlock = some k → bs ≤ k ∧ k < W.heap.size := h.row.lt
  have k5 : Kept vv.ownBlock.toList W W' := Kept.grown hg (fun k hk => by rw [hk]; simp)
  have hlt := h.lt
  have hlo := h.lo
  have hlb := h.lb
  have hsz := h.sz
  have hn : ∀ k, k < bs → k ∉ vv.ownBlock.toList := fun k hk hm => by
    have := (hown k (by simpa using hm)).1
    omega
  have s3 : Kept [b3] W' (W'.setCell ⟨b3, i, none⟩ v') := (Kept.refl [b3] W').setCell (.inl (by simp)) _
  refine ⟨⟨(k5.own h.own (hn b3 hlb)).set i v', s3.own (k5.own h.res (hn b2 (by omega))) (by simp only [List.mem_singleton]; omega), hr.kept s3 (fun k hk => by simp only [List.mem_singleton] at hk; have := h.old; omega), h.old, hlb, ?_, ?_, hlo, hlt⟩, fun k hk hk3 => ?_⟩
  · have := k5.size
    have := s3.size
    omega
  · have hsw := h.bel.size
    exact h.bel.trans ((k5.below (B := w.heap.size) hsw (fun k hk => by have := (hown k (by simpa using hk)).1; omega)).trans (s3.below (B := w.heap.size) (by have := k5.size; omega) (fun k hk => by simp only [List.mem_singleton] at hk; omega)))
  · exact (s3.block k (by have := k5.size; omega) (by simpa using hk3)).trans (k5.block k (by omega) (hn k hk))
/-- one append, by its run. -/
theorem CpI.app {P : Program} {S : TypeId} (h : CpI K E T F n0 bs w b2 b3 zs cells vv xs css W) (hu : P.underlying S = some (.slice E)) {z : Value} {bytes : Nat} (hi : (P.info? E).map (fun i => (i.zero, i.size, i.bytes)) = some (some z, K, bytes)) (hzs : z.cells.size = K) (hK : 0 < K)
    (x : α) (cs : List Value) (hcl : cs.length = K) (h1 : ∀ u ∈ cs, u.oneCell' = true) {b : Nat} {T' : TypeId} (hO : Own W b T' cs) (hx : Stab W (fun k => (k < n0 ∨ bs ≤ k) ∧ some k ≠ vv.ownBlock) (fun W => F W cs x))
    (hlen : xs.length ≤ 100000) (hby : bytes ≤ 1000) :
    ∃ A c W', (Builtin.append_ #[S, S] S #[vv, .slice (some ⟨b, 0, none⟩) 1 1]).run P W = .ok (.slice A (xs.length + 1) c) W' ∧ (∀ k, k < W.heap.size → some k ≠ vv.ownBlock → W'.heap[k]? = W.heap[k]?) ∧ W.heap.size ≤ W'.heap.size ∧
      ∀ i, CpI K E T F n0 bs w b2 b3 zs (cells.set i (.slice A (xs.length + 1) c)) (.slice A (xs.length + 1) c) (xs ++ [x]) (css ++ [cs]) (W'.setCell ⟨b3, i, none⟩ (.slice A (xs.length + 1) c)) ∧
        ∀ k, k < bs → k ≠ b3 → (W'.setCell ⟨b3, i, none⟩ (.slice A (xs.length + 1) c)).heap[k]? = W.heap[k]? := by
  obtain ⟨v', W', g1, g2, g3, _⟩ := h.row.app hu hi hzs hK x cs hcl h1 hO hx hlen hby h.sz
  obtain ⟨A, c, hv⟩ := g2.val
  rw [List.length_append, List.length_singleton] at hv
  subst hv
  exact ⟨A, c, W', g1, g3.block, g3.size, fun i => h.step g2 g3 i⟩
/-- the end: the box copied into the result. -/
theorem CpI.done {Q : World → Nat → Nat → α → Prop} {A : Option Addr} {c : Nat} (h : CpI K E T F n0 bs w b2 b3 zs cells (.slice A xs.length c) xs css W)
    (hQ : ∀ (W : World) b o x cs, cs.length = K → (∀ (j : Nat) u, cs[j]? = some u → W.cell? ⟨b, o + j, none⟩ = some u) → F W cs x → Q W b o x) (hl : xs.length ≤ 140737488351232) (hk : Kept [b2] W W') :
    Stab W' (fun k => k < n0 ∨ bs ≤ k) (fun W => Rg K Q W A xs) ∧ Below w.heap.size w W' := by
  have hlo := h.lo
  have hlt := h.lt
  have hold := h.old
  have hlb := h.lb
  exact ⟨(h.row.rg rfl hQ hl).keep hk.size (fun k hkw hp => hk.block k hkw (by simp only [List.mem_singleton]; omega)) (fun _ _ h => h), h.bel.trans (hk.below h.bel.size (fun k hk => by simp only [List.mem_singleton] at hk; omega))⟩
end
end Go.Proofs.YtolnikpihedmbaaGreatDoor

set_option linter.unusedVariables false
set_option linter.unusedSimpArgs false
namespace Go.Proofs.YtolnikpihedmbaaGreatDoor
open Go.RowKit Go.Deep Go.Shelf
attribute [local go_sem] Oper.semAt_some

/-- a term's cells. -/
abbrev tmC (x : TTm) : List Value := [.string x.v, .int .i64 x.k, .int .i64 x.n, .string x.s]
/-- a slice of terms in a block of its own. -/
def MArr (e : TypeId) (w : World) (v : Value) (L : List TTm) (G : List Nat) : Prop :=
  (v = .slice none 0 0 ∧ L = [] ∧ G = []) ∨ ∃ g cap sp, v = .slice (some ⟨g, 0, none⟩) L.length cap ∧ G = [g] ∧ L.length ≤ cap ∧ cap ≤ maxLen ∧ Own w g e (flatM L ++ sp) ∧ (flatM L ++ sp).length = cap * 4
section
variable {e : TypeId} {w w' : World} {v : Value} {L : List TTm} {G S : List Nat}
theorem MArr.kept (h : MArr e w v L G) (hk : Kept S w w') (hn : ∀ g ∈ G, g ∉ S) : MArr e w' v L G := by
  rcases h with h | ⟨g, cap, sp, h1, rfl, h3, h4, h5, h6⟩
  · exact .inl h
  · exact .inr ⟨g, cap, sp, h1, rfl, h3, h4, hk.own h5 (hn g (by simp)), h6⟩
theorem MArr.calm {B : Nat} (h : MArr e w v L G) (hk : Calm B w w') : MArr e w' v L G := by
  rcases h with h | ⟨g, cap, sp, h1, h2, h3, h4, h5, h6⟩
  · exact .inl h
  · exact .inr ⟨g, cap, sp, h1, h2, h3, h4, hk.own h5, h6⟩
theorem MArr.block (h : MArr e w v L G) : ∀ k, v.ownBlock = some k → k ∈ G := by
  intro k hk
  rcases h with ⟨rfl, _⟩ | ⟨g, cap, sp, rfl, rfl, _⟩
  · cases hk
  · injection hk with hk
    simp [← hk]
theorem MArr.val (h : MArr e w v L G) : ∃ A c, v = .slice A L.length c ∧ (A = none → c = 0) := by
  rcases h with ⟨rfl, rfl, _⟩ | ⟨g, cap, sp, rfl, _⟩
  · exact ⟨none, 0, rfl, fun _ => rfl⟩
  · exact ⟨_, _, rfl, fun h => by cases h⟩
theorem MArr.owns (h : MArr e w v L G) : w.ownsRow 0 e 4 v L.length (flatM L) := by
  refine ⟨flatM_len L, ?_⟩
  rcases h with ⟨rfl, rfl, _⟩ | ⟨g, cap, sp, rfl, _, h3, h4, h5, h6⟩
  · exact .inl ⟨rfl, rfl⟩
  · refine .inr ⟨g, cap, _, rfl, Nat.zero_le _, h5, h3, h4, by simpa using h6, ?_⟩
    rw [← flatM_len L]
    simp
theorem MArr.of_owns {g n cap : Nat} (h : w.ownsRow 0 e 4 (.slice (some ⟨g, 0, none⟩) n cap) n (flatM L)) : MArr e w (.slice (some ⟨g, 0, none⟩) n cap) L [g] := by
  obtain ⟨h1, ⟨h2, _⟩ | ⟨g', cap', cur, h2, _, h3, h4, h5, h6, h7⟩⟩ := h
  · cases h2
  · injection h2 with a1 _ a3
    injection a1 with a1
    injection a1 with a1
    subst a1 a3
    have hn : L.length = n := by
      have := flatM_len L
      omega
    refine .inr ⟨g, cap, cur.toList.drop (n * 4), by rw [hn], rfl, by omega, h5, ?_, ?_⟩
    · have e1 : flatM L ++ cur.toList.drop (n * 4) = cur.toList := by rw [← h7, List.take_append_drop]
      unfold Own
      rw [h3, e1]
    · rw [← h7, List.take_append_drop]
      simpa using h6
theorem MArr.row (h : MArr e w v L G) (hok : ∀ t ∈ L, okTm t) (hl : L.length ≤ 100000) : ∃ A c, v = .slice A L.length c ∧ (A = none → c = 0) ∧ Rg 4 TmC w A L := by
  rcases h with ⟨rfl, rfl, _⟩ | ⟨g, cap, sp, rfl, _, h3, h4, h5, h6⟩
  · exact ⟨none, 0, rfl, fun _ => rfl, Rg.nil⟩
  · refine ⟨_, _, rfl, (fun h => by cases h), ⟨by omega, fun _ => ⟨g, 0, rfl, h5.lt, fun i x hx => ?_⟩⟩⟩
    have hi : i < L.length := (List.getElem?_eq_some_iff.1 hx).1
    have hl := flatM_len L
    obtain ⟨c0, c1, c2, c3⟩ := flatM_at L i x hx
    have hq := hok x (List.mem_of_getElem? hx)
    unfold TmC
    rw [Nat.zero_add, h5.cell, h5.cell, h5.cell, h5.cell, List.getElem?_append_left (by omega), List.getElem?_append_left (by omega), List.getElem?_append_left (by omega), List.getElem?_append_left (by omega)]
    exact ⟨c0, c1, c2, c3, hq⟩
theorem MArr.owns_at (h : MArr e w v L G) {n0 : Nat} (hG : ∀ g ∈ G, n0 ≤ g) : w.ownsRow n0 e 4 v L.length (flatM L) := by
  obtain ⟨h1, h2⟩ := h.owns
  refine ⟨h1, h2.imp id fun ⟨g, cap, cur, h3, _, h4⟩ => ⟨g, cap, cur, h3, hG g ?_, h4⟩⟩
  subst h3
  exact h.block g rfl
end
/-- one term more in the slice, stored in its box. -/
theorem m_step {e tv : TypeId} {W w1 : World} {b5 B0 n g cap n0 : Nat} {pre : List TTm} {x : TTm} {v : Value} {G : List Nat} {tmp : Obj}
    (hO : Own W b5 tv [v]) (ha : MArr e W v pre G) (hG : ∀ k ∈ G, b5 ≠ k ∧ n0 ≤ k) (hn0 : n0 ≤ b5)
    (ho : w1.ownsRow 0 e 4 (.slice (some ⟨g, 0, none⟩) n cap) n (flatM pre ++ tmC x)) (hg : (W.alloc tmp).grownBy w1 v.ownBlock) (hat : (Value.slice (some ⟨g, 0, none⟩) n cap).ownBlock = v.ownBlock ∨ (Value.slice (some ⟨g, 0, none⟩) n cap).ownBlock = some (W.alloc tmp).heap.size) :
    Own w1 b5 tv [v] ∧ KeepsFrom B0 W (w1.setCell ⟨b5, 0, none⟩ (.slice (some ⟨g, 0, none⟩) n cap)) ∧ Kf [] b5 0 W (w1.setCell ⟨b5, 0, none⟩ (.slice (some ⟨g, 0, none⟩) n cap)) ∧ Own (w1.setCell ⟨b5, 0, none⟩ (.slice (some ⟨g, 0, none⟩) n cap)) b5 tv [.slice (some ⟨g, 0, none⟩) n cap] ∧
      MArr e (w1.setCell ⟨b5, 0, none⟩ (.slice (some ⟨g, 0, none⟩) n cap)) (.slice (some ⟨g, 0, none⟩) n cap) (pre ++ [x]) [g] ∧ (b5 ≠ g ∧ n0 ≤ g) ∧ Kept (b5 :: G) W (w1.setCell ⟨b5, 0, none⟩ (.slice (some ⟨g, 0, none⟩) n cap)) := by
  have q5 := hO.lt
  have hf : footL [] b5 0 W = b5 :: G := by
    unfold footL
    rw [hO.cell 0]
    rcases ha with ⟨rfl, _, rfl⟩ | ⟨g', cap', sp, rfl, rfl, _⟩ <;> rfl
  have hbl := ha.block
  have kw1 : Kept G W w1 := ((Kept.refl G W).alloc tmp).trans (Kept.grown hg hbl) (fun k hk => .inl hk)
  have k3 : Kept (b5 :: G) W (w1.setCell ⟨b5, 0, none⟩ (.slice (some ⟨g, 0, none⟩) n cap)) := (kw1.more (fun k hk => List.mem_cons_of_mem _ hk)).setCell (.inl (by simp)) _
  have hgG : g ∈ G ∨ W.heap.size < g := by
    rcases hat with h | h
    · exact .inl (hbl g h.symm)
    · injection h with h
      simp at h
      omega
  have hgw : b5 ≠ g ∧ n0 ≤ g := by
    rcases hgG with h | h
    · exact hG g h
    · omega
  have hnG : b5 ∉ G := fun h => (hG _ h).1 rfl
  have hO1 : Own w1 b5 tv [v] := kw1.own hO hnG
  have hO3 := hO1.set 0 (.slice (some ⟨g, 0, none⟩) n cap)
  have ha1 : MArr e w1 (.slice (some ⟨g, 0, none⟩) n cap) (pre ++ [x]) [g] := MArr.of_owns (by rw [flatM_append]; exact ho)
  have ha3 : MArr e (w1.setCell ⟨b5, 0, none⟩ (.slice (some ⟨g, 0, none⟩) n cap)) (.slice (some ⟨g, 0, none⟩) n cap) (pre ++ [x]) [g] :=
    ha1.kept ((Kept.refl [b5] w1).setCell (.inl (by simp)) _) (fun k hk => by simp only [List.mem_singleton] at hk ⊢; omega)
  have hf3 : footL [] b5 0 (w1.setCell ⟨b5, 0, none⟩ (.slice (some ⟨g, 0, none⟩) n cap)) = b5 :: [g] := by
    unfold footL
    rw [hO3.cell 0]
    rfl
  have hsub : Sub (b5 :: [g]) (b5 :: G) W.heap.size := fun k hk => by
    simp only [List.mem_cons, List.not_mem_nil, or_false] at hk
    rcases hk with rfl | rfl
    · exact .inl (by simp)
    · rcases hgG with h | h
      · exact .inl (by simp [h])
      · exact .inr (Nat.le_of_lt h)
  have hcells : ∀ k ∈ b5 :: G, ∀ o, W.heap[k]? = some o → o.isCells = true := fun k hk o ho => by
    rcases List.mem_cons.1 hk with rfl | hk
    · unfold Own at hO
      rw [hO] at ho
      cases ho
      rfl
    · rcases ha with ⟨_, _, rfl⟩ | ⟨g', cap', sp, _, rfl, _, _, h3, _⟩
      · cases hk
      · simp only [List.mem_singleton] at hk
        subst hk
        unfold Own at h3
        rw [h3] at ho
        cases ho
        rfl
  refine ⟨hO1, k3.keeps hcells _, Kf.of_kept k3 (fun k hk => by rw [hf]; exact hk) (by rw [hf, hf3]; exact hsub) (fun k hk => ?_), hO3, ha3, hgw, k3⟩
  rw [hf3] at hk
  simp only [List.mem_cons, List.not_mem_nil, or_false] at hk
  rcases hk with rfl | rfl
  · exact hO3.lt
  · rcases ha3 with ⟨h, _⟩ | ⟨g', cap', sp, h, hgg, _, _, h3, _⟩
    · cases h
    · injection hgg with hgg
      subst hgg
      exact h3.lt
/-- the box of a list of terms, between two rounds. -/
structure TsI (w : World) (b3 : Nat) (L : List TTm) (Ds : List Nat) (W : World) : Prop where
  o3 : ∃ v G, Own W b3 31 [v] ∧ MArr 57 W v L G ∧ ∀ g ∈ G, b3 ≠ g ∧ w.heap.size ≤ g
  ds : ∀ D ∈ Ds, W.heap[D]? = some (.deferred (some []))
  low : Below w.heap.size w W
  le : w.heap.size ≤ b3
section
variable {w X Y : World} {b3 B : Nat} {L : List TTm} {Ds : List Nat}
theorem TsI.calm (h : TsI w b3 L Ds X) (hc : Calm B X Y) (hB : w.heap.size ≤ B) (hD : ∀ D ∈ Ds, D < B) : TsI w b3 L Ds Y := by
  obtain ⟨⟨v, G, h1, h2, h3⟩, h4, h5, h6⟩ := h
  exact ⟨⟨v, G, hc.own h1, h2.calm hc, h3⟩, fun D hd => hc.block D _ (h4 D hd) (.inl (hD D hd)), Below.calm h5 hc (Nat.le_refl _) hB, h6⟩
theorem TsI.below (h : TsI w b3 L Ds X) (hb : Below X.heap.size X Y) : TsI w b3 L Ds Y := h.calm (B := X.heap.size) (Calm.of_below _ hb) h.low.size fun D hD => (Array.getElem?_eq_some_iff.1 (h.ds D hD)).1
theorem TsI.step {W w1 : World} {x : TTm} {v : Value} {G : List Nat} {B0 n g cap : Nat} {tmp : Obj} (h : TsI w b3 L Ds W)
    (hO : Own W b3 31 [v]) (ha : MArr 57 W v L G) (hG : ∀ k ∈ G, b3 ≠ k ∧ w.heap.size ≤ k)
    (ho : w1.ownsRow 0 57 4 (.slice (some ⟨g, 0, none⟩) n cap) n (flatM L ++ tmC x)) (hg : (W.alloc tmp).grownBy w1 v.ownBlock) (hat : (Value.slice (some ⟨g, 0, none⟩) n cap).ownBlock = v.ownBlock ∨ (Value.slice (some ⟨g, 0, none⟩) n cap).ownBlock = some (W.alloc tmp).heap.size) :
    Own w1 b3 31 [v] ∧ KeepsFrom B0 W (w1.setCell ⟨b3, 0, none⟩ (.slice (some ⟨g, 0, none⟩) n cap)) ∧ Kf [] b3 0 W (w1.setCell ⟨b3, 0, none⟩ (.slice (some ⟨g, 0, none⟩) n cap)) ∧ TsI w b3 (L ++ [x]) Ds (w1.setCell ⟨b3, 0, none⟩ (.slice (some ⟨g, 0, none⟩) n cap)) := by
  obtain ⟨h1, h2, h3, h4, h5, h6, h7⟩ := m_step (B0 := B0) hO ha hG h.le ho hg hat
  refine ⟨h1, h2, h3, ⟨⟨_, _, h4, h5, fun k hk => ?_⟩, fun D hD => ?_, h.low.trans (h7.below h.low.size fun k hk => ?_), h.le⟩⟩
  · simp only [List.mem_singleton] at hk
    subst hk
    exact h6
  · have hd := h.ds D hD
    refine (h7.block D (Array.getElem?_eq_some_iff.1 hd).1 fun hm => ?_).trans hd
    rcases List.mem_cons.1 hm with rfl | hm
    · unfold Own at hO
      rw [hO] at hd
      cases hd
    · rcases ha with ⟨_, _, rfl⟩ | ⟨g', cap', sp, _, rfl, _, _, h3, _⟩
      · cases hm
      · simp only [List.mem_singleton] at hm
        subst hm
        unfold Own at h3
        rw [h3] at hd
        cases hd
  · rcases List.mem_cons.1 hk with rfl | hk
    · exact h.le
    · exact (hG _ hk).2
end
end Go.Proofs.YtolnikpihedmbaaGreatDoor

set_option linter.unusedVariables false
set_option linter.unusedSimpArgs false
namespace Go.Proofs.YtolnikpihedmbaaGreatDoor
open Go.RowKit Go.Deep Go.Shelf

section
variable {P : Program} {ops : Array Oper} {Q : Exit → Act → World → Prop}
variable {m : Nat} {D : Nat → Tmp} {F : Nat → Value → World → Prop} {a0 : Act} {w0 : World}
end
end Go.Proofs.YtolnikpihedmbaaGreatDoor

set_option linter.unusedVariables false
set_option linter.unusedSimpArgs false
namespace Go.Proofs.YtolnikpihedmbaaGreatDoor
open Go.RowKit Go.Deep Go.Shelf

/-- texts in a row. -/
def TxRow (w : World) (A : Option Addr) (L : List ByteArray) : Prop := 0 < L.length → ∃ b o, A = some ⟨b, o, none⟩ ∧ b < w.heap.size ∧ ∀ (i : Nat) x, L[i]? = some x → w.cell? ⟨b, o + i, none⟩ = some (.string x)
theorem TxRow.own {w : World} {base : Nat} {e : TypeId} {A : Option Addr} {c : Nat} {L : List ByteArray} (h : w.ownsRow base e 1 (.slice A L.length c) L.length (L.map Value.string)) : TxRow w A L := fun h0 => by
  rcases h.2 with ⟨h1, h2⟩ | ⟨g, cap, cur, h1, hg, hc, hcap, _, hcs, htake⟩
  · omega
  · injection h1 with h1 _ _
    subst h1
    refine ⟨g, 0, rfl, (Array.getElem?_eq_some_iff.1 hc).1, fun i y hy => ?_⟩
    have hu : (L.map Value.string)[i]? = some (.string y) := by rw [List.getElem?_map, hy]; rfl
    rw [Nat.zero_add, cell_of_row w g i cur e (0, 0) hc]
    rw [← htake, List.getElem?_take] at hu
    split at hu
    · simpa using hu
    · cases hu
theorem TxRow.pers {w w' : World} {A : Option Addr} {L : List ByteArray} (h : TxRow w A L) (hp : Pers w w') : TxRow w' A L := fun h0 => by
  obtain ⟨b, o, h1, h2, h3⟩ := h h0
  exact ⟨b, o, h1, Nat.lt_of_lt_of_le h2 hp.1, fun i x hx => hp.2 _ _ (h3 i x hx)⟩
section
variable {ops : Array Oper} {m : Nat} {D : Nat → Tmp}
end

def tX : TTm := ⟨⟨#[88]⟩, 0, 0, noText⟩
def tY : TTm := ⟨⟨#[89]⟩, 0, 0, noText⟩
def tZ : TTm := ⟨⟨#[90]⟩, 0, 0, noText⟩
def eX : TEx := .mk 0 tX []
def eZ : TEx := .mk 0 tZ []
def e0 : TEx := .mk 0 zT []
def lt1 : TLt := ⟨1, ⟨⟨#[113]⟩, [tY, tZ]⟩, 0, e0, e0, 0⟩
def lt2 : TLt := ⟨3, ⟨noText, []⟩, 1, eX, eZ, 0⟩
def ru0 : TRu := ⟨⟨⟨#[112]⟩, [tX, tY]⟩, 0, 0, [lt1, lt2], 0⟩
/-- what is known of each value of the example's region. -/
def AlF (w0 : World) : Nat → Value → World → Prop
  | 0, v, _ => v = .agg #[.string ⟨#[88]⟩, .int .i64 0, .int .i64 0, .string noText]
  | 1, v, _ => v = .agg #[.string ⟨#[89]⟩, .int .i64 0, .int .i64 0, .string noText]
  | 2, v, w => ∃ b, v = .slice (some ⟨b, 0, none⟩) 2 2 ∧ Rg 4 TmC w (some ⟨b, 0, none⟩) [tX, tY]
  | 3, v, w => ∃ b, v = .agg #[.string ⟨#[112]⟩, .slice (some ⟨b, 0, none⟩) 2 2] ∧ Rg 4 TmC w (some ⟨b, 0, none⟩) [tX, tY]
  | 4, v, _ => v = .agg #[.string ⟨#[89]⟩, .int .i64 0, .int .i64 0, .string noText]
  | 5, v, _ => v = .agg #[.string ⟨#[90]⟩, .int .i64 0, .int .i64 0, .string noText]
  | 6, v, w => ∃ b, v = .slice (some ⟨b, 0, none⟩) 2 2 ∧ Rg 4 TmC w (some ⟨b, 0, none⟩) [tY, tZ]
  | 7, v, w => ∃ b, v = .agg #[.string ⟨#[113]⟩, .slice (some ⟨b, 0, none⟩) 2 2] ∧ Rg 4 TmC w (some ⟨b, 0, none⟩) [tY, tZ]
  | 8, v, w => ∃ b, v = .agg #[.int .i64 1, .string ⟨#[113]⟩, .slice (some ⟨b, 0, none⟩) 2 2, .int .i64 0, .int .i64 0, .string noText, .int .i64 0, .int .i64 0, .string noText, .slice none 0 0, .int .i64 0, .string noText, .int .i64 0, .int .i64 0, .string noText, .slice none 0 0, .int .i64 0] ∧ Rg 4 TmC w (some ⟨b, 0, none⟩) [tY, tZ]
  | 9, v, _ => v = .agg #[.int .i64 0, .string ⟨#[88]⟩, .int .i64 0, .int .i64 0, .string noText, .slice none 0 0]
  | 10, v, _ => v = .agg #[.int .i64 0, .string ⟨#[90]⟩, .int .i64 0, .int .i64 0, .string noText, .slice none 0 0]
  | 11, v, _ => v = .agg #[.int .i64 3, .string noText, .slice none 0 0, .int .i64 1, .int .i64 0, .string ⟨#[88]⟩, .int .i64 0, .int .i64 0, .string noText, .slice none 0 0, .int .i64 0, .string ⟨#[90]⟩, .int .i64 0, .int .i64 0, .string noText, .slice none 0 0, .int .i64 0]
  | 12, v, w => ∃ b, v = .slice (some ⟨b, 0, none⟩) 2 2 ∧ Rg 17 LtC w (some ⟨b, 0, none⟩) [lt1, lt2]
  | 13, v, w => ∃ b g, v = .agg #[.string ⟨#[112]⟩, .slice (some ⟨b, 0, none⟩) 2 2, .int .i64 0, .int .i64 0, .slice (some ⟨g, 0, none⟩) 2 2, .int .i64 0] ∧ RuV w ru0 (some ⟨b, 0, none⟩) (some ⟨g, 0, none⟩)
  | 14, v, w => ∃ b, v = .pointer (some ⟨b, 0, none⟩) ∧ Own w b 36 [.string noText, .slice none 0 0, .int .i64 0, .int .i64 0, .slice none 0 0, .int .i64 0] ∧ w0.heap.size ≤ b
  | _, _, _ => False
theorem AlF.keep {w0 : World} : ∀ k v X Y, AlF w0 k v X → Below X.heap.size X Y → AlF w0 k v Y
  | 0, _, _, _, h, _ => h
  | 1, _, _, _, h, _ => h
  | 2, _, _, _, ⟨b, h1, h2⟩, hb => ⟨b, h1, h2.tm (.of hb)⟩
  | 3, _, _, _, ⟨b, h1, h2⟩, hb => ⟨b, h1, h2.tm (.of hb)⟩
  | 4, _, _, _, h, _ => h
  | 5, _, _, _, h, _ => h
  | 6, _, _, _, ⟨b, h1, h2⟩, hb => ⟨b, h1, h2.tm (.of hb)⟩
  | 7, _, _, _, ⟨b, h1, h2⟩, hb => ⟨b, h1, h2.tm (.of hb)⟩
  | 8, _, _, _, ⟨b, h1, h2⟩, hb => ⟨b, h1, h2.tm (.of hb)⟩
  | 9, _, _, _, h, _ => h
  | 10, _, _, _, h, _ => h
  | 11, _, _, _, h, _ => h
  | 12, _, _, _, ⟨b, h1, h2⟩, hb => ⟨b, h1, h2.lt (.of hb)⟩
  | 13, _, _, _, ⟨b, g, h1, h2⟩, hb => ⟨b, g, h1, h2.below hb⟩
  | 14, _, _, _, ⟨b, h1, h2, h3⟩, hb => ⟨b, h1, h2.below hb, h3⟩
  | _ + 15, _, _, _, h, _ => h
section
variable {X Y : World} {b4 : Nat}
end
end Go.Proofs.YtolnikpihedmbaaGreatDoor

set_option linter.unusedVariables false
set_option linter.unusedSimpArgs false
namespace Go.Proofs.YtolnikpihedmbaaGreatDoor
open Go.RowKit Go.Deep Go.Shelf

theorem infoTex : (Tryz.prog.info? 60).map (·.size) = some 6 := by kernel_rfl
/-- a literal's copy. -/
def GotLc (w : World) (x : TLt) (r : Ending) (w' : World) : Prop := ∃ A c L d R f, r = .returned (ltV x A c L d R f) ∧ Stab w' (fun k => w.heap.size ≤ k) (fun W => LtV W x A L R) ∧ Below w.heap.size w w'
def LcF (x : TLt) (A : Option Addr) (c : Nat) (L : Option Addr) (d : Nat) (R : Option Addr) (f n0 b1 : Nat) : Nat → Value → World → Prop
  | 0, v, _ => v = .pointer (some ⟨b1, 0, none⟩)
  | 1, v, _ => v = .int .i64 x.kind
  | 2, v, _ => v = .pointer (some ⟨b1, 1, none⟩)
  | 3, v, _ => v = .agg #[.string x.atom.rel, .slice A x.atom.args.length c]
  | 4, v, W => ∃ A2 c2, v = .agg #[.string x.atom.rel, .slice A2 x.atom.args.length c2] ∧ AmV W x.atom A2 ∧ ∀ ad, A2 = some ad → n0 ≤ ad.block
  | 5, v, _ => v = .pointer (some ⟨b1, 3, none⟩)
  | 6, v, _ => v = .int .i64 x.op
  | 7, v, _ => v = .pointer (some ⟨b1, 4, none⟩)
  | 8, v, _ => v = .agg #[.int .i64 x.left.op, .string x.left.t.v, .int .i64 x.left.t.k, .int .i64 x.left.t.n, .string x.left.t.s, .slice L x.left.kids.length d]
  | 9, v, W => ∃ A2 c2, v = .agg #[.int .i64 x.left.op, .string x.left.t.v, .int .i64 x.left.t.k, .int .i64 x.left.t.n, .string x.left.t.s, .slice A2 x.left.kids.length c2] ∧ Stab W (fun k => n0 ≤ k) (fun W => ExV W x.left A2)
  | 10, v, _ => v = .pointer (some ⟨b1, 10, none⟩)
  | 11, v, _ => v = .agg #[.int .i64 x.right.op, .string x.right.t.v, .int .i64 x.right.t.k, .int .i64 x.right.t.n, .string x.right.t.s, .slice R x.right.kids.length f]
  | 12, v, W => ∃ A2 c2, v = .agg #[.int .i64 x.right.op, .string x.right.t.v, .int .i64 x.right.t.k, .int .i64 x.right.t.n, .string x.right.t.s, .slice A2 x.right.kids.length c2] ∧ Stab W (fun k => n0 ≤ k) (fun W => ExV W x.right A2)
  | 13, v, _ => v = .pointer (some ⟨b1, 16, none⟩)
  | 14, v, _ => v = .int .i64 x.pos
  | 15, v, W => ∃ A2 c2 L2 d2 R2 f2, v = .agg #[.int .i64 x.kind, .string x.atom.rel, .slice A2 x.atom.args.length c2, .int .i64 x.op, .int .i64 x.left.op, .string x.left.t.v, .int .i64 x.left.t.k, .int .i64 x.left.t.n, .string x.left.t.s, .slice L2 x.left.kids.length d2, .int .i64 x.right.op, .string x.right.t.v, .int .i64 x.right.t.k, .int .i64 x.right.t.n, .string x.right.t.s, .slice R2 x.right.kids.length f2, .int .i64 x.pos] ∧ (AmV W x.atom A2 ∧ ∀ ad, A2 = some ad → n0 ≤ ad.block) ∧ Stab W (fun k => n0 ≤ k) (fun W => ExV W x.left L2) ∧ Stab W (fun k => n0 ≤ k) (fun W => ExV W x.right R2)
  | _, _, _ => False
theorem LcF.keep {x : TLt} {A : Option Addr} {c : Nat} {L : Option Addr} {d : Nat} {R : Option Addr} {f n0 b1 : Nat} : ∀ k v X Y, LcF x A c L d R f n0 b1 k v X → Below X.heap.size X Y → LcF x A c L d R f n0 b1 k v Y
  | 0, _, _, _, h, _ => h
  | 1, _, _, _, h, _ => h
  | 2, _, _, _, h, _ => h
  | 3, _, _, _, h, _ => h
  | 4, _, _, _, ⟨p, q, h1, h2, h3⟩, hb => ⟨p, q, h1, h2.below hb, h3⟩
  | 5, _, _, _, h, _ => h
  | 6, _, _, _, h, _ => h
  | 7, _, _, _, h, _ => h
  | 8, _, _, _, h, _ => h
  | 9, _, _, _, ⟨p, q, h1, h2⟩, hb => ⟨p, q, h1, h2.below hb⟩
  | 10, _, _, _, h, _ => h
  | 11, _, _, _, h, _ => h
  | 12, _, _, _, ⟨p, q, h1, h2⟩, hb => ⟨p, q, h1, h2.below hb⟩
  | 13, _, _, _, h, _ => h
  | 14, _, _, _, h, _ => h
  | 15, _, _, _, ⟨p, q, r, s, t, u, h1, h2, h3, h4⟩, hb => ⟨p, q, r, s, t, u, h1, ⟨h2.1.below hb, h2.2⟩, h3.below hb, h4.below hb⟩
  | _ + 16, _, _, _, h, _ => h
end Go.Proofs.YtolnikpihedmbaaGreatDoor

set_option linter.unusedVariables false
set_option linter.unusedSimpArgs false
namespace Go.Proofs.YtolnikpihedmbaaGreatDoor
open Go.RowKit Go.Deep Go.Shelf

theorem ltF_cells {W : World} {b o : Nat} {x : TLt} {A : Option Addr} {c : Nat} {L : Option Addr} {d : Nat} {R : Option Addr} {f : Nat} (hF : LtF W b o x A c L d R f) : ∀ (i : Nat) v, (ltL x A c L d R f)[i]? = some v → W.cell? ⟨b, o + i, none⟩ = some v := fun i v hv => by
  obtain ⟨e0, e1, e2, e3, ⟨e4, e5, e6, e7, e8, e9⟩, ⟨e10, e11, e12, e13, e14, e15⟩, e16⟩ := hF
  match i, hv with
  | 0, hv => cases hv; exact e0
  | 1, hv => cases hv; exact e1
  | 2, hv => cases hv; exact e2
  | 3, hv => cases hv; exact e3
  | 4, hv => cases hv; exact e4
  | 5, hv => cases hv; exact e5
  | 6, hv => cases hv; exact e6
  | 7, hv => cases hv; exact e7
  | 8, hv => cases hv; exact e8
  | 9, hv => cases hv; exact e9
  | 10, hv => cases hv; exact e10
  | 11, hv => cases hv; exact e11
  | 12, hv => cases hv; exact e12
  | 13, hv => cases hv; exact e13
  | 14, hv => cases hv; exact e14
  | 15, hv => cases hv; exact e15
  | 16, hv => cases hv; exact e16
  | n + 17, hv => simp [ltL] at hv
end Go.Proofs.YtolnikpihedmbaaGreatDoor

set_option linter.unusedVariables false
set_option linter.unusedSimpArgs false
namespace Go.Proofs.YtolnikpihedmbaaGreatDoor
open Go.RowKit Go.Deep Go.Shelf

theorem same_step {α : Type} [DecidableEq α] {l l' : List α} {j : Nat} (h : j < l.length) (h' : j < l'.length) : decide (l.drop j = l'.drop j) = (decide (l[j] = l'[j]) && decide (l.drop (j + 1) = l'.drop (j + 1))) := by
  rw [List.drop_eq_getElem_cons h, List.drop_eq_getElem_cons h']
  simp only [List.cons.injEq, Bool.decide_and]
theorem wpList_store_new2 {P : Program} {ops : Array Oper} {rest : List Oper} {o : Oper} {a : Act} {w : World} {o1 : Obj} {Q : Exit → Act → World → Prop} (hgd : o.guard = none) (ty : TypeId) (x y : Operand) (ho : o.op = .store ty x y)
    (cells : Array Value) (hx : a.eval x = .pointer (some ⟨w.heap.size + 1, 0, none⟩)) (hy : a.eval y = .agg cells) (t : TypeId) (old : Array Value) (hi : (P.info? ty).map (·.size) = some cells.size)
    (hold : old.size = cells.size) (h1 : cells.all (·.oneCell') = true)
    (h : wpList P ops Q rest (a.put o.dst undef) ((w.alloc o1).alloc (.cells cells t))) : wpList P ops Q (o :: rest) a ((w.alloc o1).alloc (.cells old t)) :=
  wpList_store_new (w := w.alloc o1) hgd ty x y ho cells (by rw [World.size_alloc]; exact hx) hy t old hi hold h1 h
theorem txt_beq (s t : ByteArray) : (s.toList == t.toList) = decide (s = t) := by
  by_cases h : s = t
  · subst h
    simp
  · rw [decide_eq_false h, beq_eq_false_iff_ne]
    exact fun e => h (toList_inj' e)
theorem len_beq {a b : Nat} : ((a : Int) == (b : Int)) = decide (a = b) := by
  by_cases h : a = b
  · subst h; simp
  · rw [decide_eq_false h, beq_eq_false_iff_ne]
    omega
/-- two elements at an index, and what a function says of them. -/
def EqX (w : World) (K : Nat) (A A' : Option Addr) (f : FuncId) (j : Nat) (b : Bool) : Prop :=
  ∃ (b1 o1 b2 o2 : Nat) (cs ds : List Value), A = some ⟨b1, o1, none⟩ ∧ A' = some ⟨b2, o2, none⟩ ∧ b1 < w.heap.size ∧ b2 < w.heap.size ∧ cs.length = K ∧ ds.length = K ∧ cs.toArray.all (·.oneCell') = true ∧ ds.toArray.all (·.oneCell') = true ∧
    (∀ (i : Nat) v, cs[i]? = some v → w.cell? ⟨b1, o1 + j * K + i, none⟩ = some v) ∧ (∀ (i : Nat) v, ds[i]? = some v → w.cell? ⟨b2, o2 + j * K + i, none⟩ = some v) ∧
    ∀ W, Below w.heap.size w W → Calls Tryz.prog f #[.agg cs.toArray, .agg ds.toArray] W fun r w' => r = .returned (.bool b) ∧ Below W.heap.size W w'
theorem infoTde : (Tryz.prog.info? 70).map (·.size) = some 3 := by kernel_rfl
theorem infoTru : (Tryz.prog.info? 36).map (·.size) = some 6 := by kernel_rfl
theorem infoTlt : (Tryz.prog.info? 62).map (·.size) = some 17 := by kernel_rfl
set_option maxRecDepth 100000 in
set_option maxHeartbeats 1000000 in
theorem eqTms_any (A A' : Option Addr) (c c' : Nat) (l l' : List TTm) (w : World) (hV : Rg 4 TmC w A l) (hV' : Rg 4 TmC w A' l') :
    Calls Tryz.prog 64 #[.slice A l.length c, .slice A' l'.length c'] w fun r w' => r = .returned (.bool (decide (l = l'))) ∧ Below w.heap.size w w' := by
  have HV := Lib.hid hV
  have HV' := Lib.hid hV'
  have hlen := hV.1
  have hlen' := hV'.1
  clear hV hV'
  by_cases hm : l.length = l'.length
  · have e1 : ((l.length : Int) == (l'.length : Int)) = true := by rw [len_beq, decide_eq_true hm]
    have e2 : ((l.length : Int) != (l'.length : Int)) = false := by simp [bne, e1]
    have HM := Lib.hid hm
    clear hm
    go_enter Tryz.func64, Tryz.ntmps64
    go_wp2_with fail
    clear e1 e2
    go_loopw [13] (fun i wr => ∃ j : Nat, j ≤ l.length ∧ i = .int .i64 j ∧ Hid (decide (l = l') = decide (l.drop j = l'.drop j)) ∧ Hid (Below w.heap.size w wr)) (fun i _ => l.length - (intOf i).toNat)
    case atStart => exact ⟨0, Nat.zero_le _, rfl, Lib.hid rfl, Lib.hid (Below.refl _ _)⟩
    case round =>
      obtain ⟨j, hj, rfl, HX, HB⟩ := hrel
      by_cases hlt : j < l.length
      · have hlt' : j < l'.length := by rw [← HM.out]; exact hlt
        obtain ⟨g, o, rfl, hgw, hc⟩ := HV.out.at_ hlt
        obtain ⟨g', o', rfl, hgw', hc'⟩ := HV'.out.at_ hlt'
        have HE := Lib.hid (HX.out.trans (same_step hlt hlt'))
        have hli : (0 : Int) ≤ (j : Int) := by omega
        have hlj : (j : Int) < (l.length : Int) := by omega
        have hlj' : (j : Int) < (l'.length : Int) := by omega
        obtain ⟨c0, c1, c2, c3, _⟩ := hc.pers (Pers.of HB.out)
        obtain ⟨d0, d1, d2, d3, _⟩ := hc'.pers (Pers.of HB.out)
        clear HX
        generalize l[j] = x at *
        generalize l'[j] = y at *
        by_cases hxy : x = y
        · have kq := neTm x y true (decide_eq_true hxy)
          have kq := fun w => kq w
          rw [decide_eq_true hxy, Bool.true_and] at HE
          clear hxy
          go_wp2_with fail
          go_quiet (fail)
          go_wp2_with fail
          go_roundw
          case rel => exact ⟨j + 1, by omega, by go_num, HE, below_drewN HB.out _⟩
          case measure => simp [intOf]; omega
        · have kq := neTm x y false (decide_eq_false hxy)
          rw [decide_eq_false hxy, Bool.false_and] at HE
          clear hxy
          go_wp2_with fail
          go_quiet (fail)
          go_wp2_with fail
          go_ret
          exact ⟨by rw [HE.out]; rfl, below_drewN HB.out _⟩
      · have HF : Hid (decide (l = l') = true) := by show _ = _; rw [HX.out, List.drop_eq_nil_of_le (by omega), List.drop_eq_nil_of_le (by have := HM.out; omega)]; simp
        clear HX
        go_wp2_with fail
        go_ret
        exact ⟨by rw [HF.out]; rfl, HB.out⟩
  · have e1 : ((l.length : Int) == (l'.length : Int)) = false := by rw [len_beq, decide_eq_false hm]
    have e2 : ((l.length : Int) != (l'.length : Int)) = true := by simp [bne, e1]
    have HF : Hid (decide (l = l') = false) := by show _ = _; exact decide_eq_false (fun e => hm (by rw [e]))
    clear hm
    go_enter Tryz.func64, Tryz.ntmps64
    go_wp2_with fail
    go_ret
    exact ⟨by rw [HF.out]; rfl, Below.refl _ _⟩
set_option maxRecDepth 100000 in
set_option maxHeartbeats 1000000 in
theorem eqKds_any (A A' : Option Addr) (c c' : Nat) (l l' : List Int) (w : World) (hV : Rg 1 IntC w A l) (hV' : Rg 1 IntC w A' l') :
    Calls Tryz.prog 40 #[.slice A l.length c, .slice A' l'.length c'] w fun r w' => r = .returned (.bool (decide (l = l'))) ∧ Below w.heap.size w w' := by
  have HV := Lib.hid hV
  have HV' := Lib.hid hV'
  have hlen := hV.1
  have hlen' := hV'.1
  clear hV hV'
  by_cases hm : l.length = l'.length
  · have e1 : ((l.length : Int) == (l'.length : Int)) = true := by rw [len_beq, decide_eq_true hm]
    have e2 : ((l.length : Int) != (l'.length : Int)) = false := by simp [bne, e1]
    have HM := Lib.hid hm
    clear hm
    go_enter Tryz.func40, Tryz.ntmps40
    go_wp2_with fail
    clear e1 e2
    go_loopw [13] (fun i wr => ∃ j : Nat, j ≤ l.length ∧ i = .int .i64 j ∧ Hid (decide (l = l') = decide (l.drop j = l'.drop j)) ∧ Hid (Below w.heap.size w wr)) (fun i _ => l.length - (intOf i).toNat)
    case atStart => exact ⟨0, Nat.zero_le _, rfl, Lib.hid rfl, Lib.hid (Below.refl _ _)⟩
    case round =>
      obtain ⟨j, hj, rfl, HX, HB⟩ := hrel
      by_cases hlt : j < l.length
      · have hlt' : j < l'.length := by rw [← HM.out]; exact hlt
        obtain ⟨g, o, rfl, hgw, hc⟩ := HV.out.at_ hlt
        obtain ⟨g', o', rfl, hgw', hc'⟩ := HV'.out.at_ hlt'
        have HE := Lib.hid (HX.out.trans (same_step hlt hlt'))
        have hli : (0 : Int) ≤ (j : Int) := by omega
        have hlj : (j : Int) < (l.length : Int) := by omega
        have hlj' : (j : Int) < (l'.length : Int) := by omega
        have c0 := hc.pers_int (Pers.of HB.out)
        have d0 := hc'.pers_int (Pers.of HB.out)
        unfold IntC at c0 d0
        rw [Nat.mul_one] at c0 d0
        clear hc hc'
        clear HX
        generalize l[j] = x at *
        generalize l'[j] = y at *
        by_cases hxy : x = y
        · have q1 : (x == y) = true := by simp [hxy]
          have q2 : (x != y) = false := by simp [hxy]
          rw [decide_eq_true hxy, Bool.true_and] at HE
          clear hxy
          go_wp2_with fail
          go_quiet (fail)
          go_wp2_with fail
          go_roundw
          case rel => exact ⟨j + 1, by omega, by go_num, HE, below_drewN HB.out _⟩
          case measure => simp [intOf]; omega
        · have q1 : (x == y) = false := by simp [hxy]
          have q2 : (x != y) = true := by simp [hxy]
          rw [decide_eq_false hxy, Bool.false_and] at HE
          clear hxy
          go_wp2_with fail
          go_quiet (fail)
          go_wp2_with fail
          go_ret
          exact ⟨by rw [HE.out]; rfl, below_drewN HB.out _⟩
      · have HF : Hid (decide (l = l') = true) := by show _ = _; rw [HX.out, List.drop_eq_nil_of_le (by omega), List.drop_eq_nil_of_le (by have := HM.out; omega)]; simp
        clear HX
        go_wp2_with fail
        go_ret
        exact ⟨by rw [HF.out]; rfl, HB.out⟩
  · have e1 : ((l.length : Int) == (l'.length : Int)) = false := by rw [len_beq, decide_eq_false hm]
    have e2 : ((l.length : Int) != (l'.length : Int)) = true := by simp [bne, e1]
    have HF : Hid (decide (l = l') = false) := by show _ = _; exact decide_eq_false (fun e => hm (by rw [e]))
    clear hm
    go_enter Tryz.func40, Tryz.ntmps40
    go_wp2_with fail
    go_ret
    exact ⟨by rw [HF.out]; rfl, Below.refl _ _⟩
end Go.Proofs.YtolnikpihedmbaaGreatDoor
