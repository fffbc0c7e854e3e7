/- Slices of terms that a call makes in a box: what is known of them; one term more; a literal's terms. Conditions: literals of at most 30,000 nodes. -/
import Derived.Test.YtikohamfnnlhcaaGreatDoorPcTermM
import Derived.Test.YtikohamfnnlhcaaGreatDoorScL
import Derived.Maps.OwnIn
import Derived.Maps.AppendAt
set_option linter.unusedVariables false
set_option linter.unusedSimpArgs false
namespace Go.Proofs.YtikohamfnnlhcaaGreatDoor
open Go.RowKit Go.Deep Go.Shelf
attribute [local go_sem] Oper.semAt_some

/-- a term's cells. -/
abbrev tmC (x : TTm) : List Value := [.string x.v, .int .i64 x.k, .int .i64 x.n, .string x.s]
/-- a slice of terms in a block of its own. -/
def MArr (e : TypeId) (w : World) (v : Value) (L : List TTm) (G : List Nat) : Prop :=
  (v = .slice none 0 0 ∧ L = [] ∧ G = []) ∨ ∃ g cap sp, v = .slice (some ⟨g, 0, none⟩) L.length cap ∧ G = [g] ∧ L.length ≤ cap ∧ cap ≤ maxLen ∧ Own w g e (flatM L ++ sp) ∧ (flatM L ++ sp).length = cap * 4
section
variable {e : TypeId} {w w' : World} {v : Value} {L : List TTm} {G S : List Nat}
theorem MArr.kept (h : MArr e w v L G) (hk : Kept S w w') (hn : ∀ g ∈ G, g ∉ S) : MArr e w' v L G := by
  rcases h with h | ⟨g, cap, sp, h1, rfl, h3, h4, h5, h6⟩
  · exact .inl h
  · exact .inr ⟨g, cap, sp, h1, rfl, h3, h4, hk.own h5 (hn g (by simp)), h6⟩
theorem MArr.calm {B : Nat} (h : MArr e w v L G) (hk : Calm B w w') : MArr e w' v L G := by
  rcases h with h | ⟨g, cap, sp, h1, h2, h3, h4, h5, h6⟩
  · exact .inl h
  · exact .inr ⟨g, cap, sp, h1, h2, h3, h4, hk.own h5, h6⟩
theorem MArr.block (h : MArr e w v L G) : ∀ k, v.ownBlock = some k → k ∈ G := by
  intro k hk
  rcases h with ⟨rfl, _⟩ | ⟨g, cap, sp, rfl, rfl, _⟩
  · cases hk
  · injection hk with hk
    simp [← hk]
theorem MArr.val (h : MArr e w v L G) : ∃ A c, v = .slice A L.length c ∧ (A = none → c = 0) := by
  rcases h with ⟨rfl, rfl, _⟩ | ⟨g, cap, sp, rfl, _⟩
  · exact ⟨none, 0, rfl, fun _ => rfl⟩
  · exact ⟨_, _, rfl, fun h => by cases h⟩
theorem MArr.owns (h : MArr e w v L G) : w.ownsRow 0 e 4 v L.length (flatM L) := by
  refine ⟨flatM_len L, ?_⟩
  rcases h with ⟨rfl, rfl, _⟩ | ⟨g, cap, sp, rfl, _, h3, h4, h5, h6⟩
  · exact .inl ⟨rfl, rfl⟩
  · refine .inr ⟨g, cap, _, rfl, Nat.zero_le _, h5, h3, h4, by simpa using h6, ?_⟩
    rw [← flatM_len L]
    simp
theorem MArr.of_owns {g n cap : Nat} (h : w.ownsRow 0 e 4 (.slice (some ⟨g, 0, none⟩) n cap) n (flatM L)) : MArr e w (.slice (some ⟨g, 0, none⟩) n cap) L [g] := by
  obtain ⟨h1, ⟨h2, _⟩ | ⟨g', cap', cur, h2, _, h3, h4, h5, h6, h7⟩⟩ := h
  · cases h2
  · injection h2 with a1 _ a3
    injection a1 with a1
    injection a1 with a1
    subst a1 a3
    have hn : L.length = n := by
      have := flatM_len L
      omega
    refine .inr ⟨g, cap, cur.toList.drop (n * 4), by rw [hn], rfl, by omega, h5, ?_, ?_⟩
    · have e1 : flatM L ++ cur.toList.drop (n * 4) = cur.toList := by rw [← h7, List.take_append_drop]
      unfold Own
      rw [h3, e1]
    · rw [← h7, List.take_append_drop]
      simpa using h6
theorem MArr.row (h : MArr e w v L G) (hok : ∀ t ∈ L, okTm t) (hl : L.length ≤ 100000) : ∃ A c, v = .slice A L.length c ∧ (A = none → c = 0) ∧ Rg 4 TmC w A L := by
  rcases h with ⟨rfl, rfl, _⟩ | ⟨g, cap, sp, rfl, _, h3, h4, h5, h6⟩
  · exact ⟨none, 0, rfl, fun _ => rfl, Rg.nil⟩
  · refine ⟨_, _, rfl, (fun h => by cases h), ⟨by omega, fun _ => ⟨g, 0, rfl, h5.lt, fun i x hx => ?_⟩⟩⟩
    have hi : i < L.length := (List.getElem?_eq_some_iff.1 hx).1
    have hl := flatM_len L
    obtain ⟨c0, c1, c2, c3⟩ := flatM_at L i x hx
    have hq := hok x (List.mem_of_getElem? hx)
    unfold TmC
    rw [Nat.zero_add, h5.cell, h5.cell, h5.cell, h5.cell, List.getElem?_append_left (by omega), List.getElem?_append_left (by omega), List.getElem?_append_left (by omega), List.getElem?_append_left (by omega)]
    exact ⟨c0, c1, c2, c3, hq⟩
end
/-- one term more in the slice, stored in its box. -/
theorem m_step {e tv : TypeId} {W w1 : World} {b5 B0 n g cap n0 : Nat} {pre : List TTm} {x : TTm} {v : Value} {G : List Nat} {tmp : Obj}
    (hO : Own W b5 tv [v]) (ha : MArr e W v pre G) (hG : ∀ k ∈ G, b5 ≠ k ∧ n0 ≤ k) (hn0 : n0 ≤ b5)
    (ho : w1.ownsRow 0 e 4 (.slice (some ⟨g, 0, none⟩) n cap) n (flatM pre ++ tmC x)) (hg : (W.alloc tmp).grownBy w1 v.ownBlock) (hat : (Value.slice (some ⟨g, 0, none⟩) n cap).ownBlock = v.ownBlock ∨ (Value.slice (some ⟨g, 0, none⟩) n cap).ownBlock = some (W.alloc tmp).heap.size) :
    Own w1 b5 tv [v] ∧ KeepsFrom B0 W (w1.setCell ⟨b5, 0, none⟩ (.slice (some ⟨g, 0, none⟩) n cap)) ∧ Kf [] b5 0 W (w1.setCell ⟨b5, 0, none⟩ (.slice (some ⟨g, 0, none⟩) n cap)) ∧ Own (w1.setCell ⟨b5, 0, none⟩ (.slice (some ⟨g, 0, none⟩) n cap)) b5 tv [.slice (some ⟨g, 0, none⟩) n cap] ∧
      MArr e (w1.setCell ⟨b5, 0, none⟩ (.slice (some ⟨g, 0, none⟩) n cap)) (.slice (some ⟨g, 0, none⟩) n cap) (pre ++ [x]) [g] ∧ (b5 ≠ g ∧ n0 ≤ g) ∧ Kept (b5 :: G) W (w1.setCell ⟨b5, 0, none⟩ (.slice (some ⟨g, 0, none⟩) n cap)) := by
  have q5 := hO.lt
  have hf : footL [] b5 0 W = b5 :: G := by
    unfold footL
    rw [hO.cell 0]
    rcases ha with ⟨rfl, _, rfl⟩ | ⟨g', cap', sp, rfl, rfl, _⟩ <;> rfl
  have hbl := ha.block
  have kw1 : Kept G W w1 := ((Kept.refl G W).alloc tmp).trans (Kept.grown hg hbl) (fun k hk => .inl hk)
  have k3 : Kept (b5 :: G) W (w1.setCell ⟨b5, 0, none⟩ (.slice (some ⟨g, 0, none⟩) n cap)) := (kw1.more (fun k hk => List.mem_cons_of_mem _ hk)).setCell (.inl (by simp)) _
  have hgG : g ∈ G ∨ W.heap.size < g := by
    rcases hat with h | h
    · exact .inl (hbl g h.symm)
    · injection h with h
      simp at h
      omega
  have hgw : b5 ≠ g ∧ n0 ≤ g := by
    rcases hgG with h | h
    · exact hG g h
    · omega
  have hnG : b5 ∉ G := fun h => (hG _ h).1 rfl
  have hO1 : Own w1 b5 tv [v] := kw1.own hO hnG
  have hO3 := hO1.set 0 (.slice (some ⟨g, 0, none⟩) n cap)
  have ha1 : MArr e w1 (.slice (some ⟨g, 0, none⟩) n cap) (pre ++ [x]) [g] := MArr.of_owns (by rw [flatM_append]; exact ho)
  have ha3 : MArr e (w1.setCell ⟨b5, 0, none⟩ (.slice (some ⟨g, 0, none⟩) n cap)) (.slice (some ⟨g, 0, none⟩) n cap) (pre ++ [x]) [g] :=
    ha1.kept ((Kept.refl [b5] w1).setCell (.inl (by simp)) _) (fun k hk => by simp only [List.mem_singleton] at hk ⊢; omega)
  have hf3 : footL [] b5 0 (w1.setCell ⟨b5, 0, none⟩ (.slice (some ⟨g, 0, none⟩) n cap)) = b5 :: [g] := by
    unfold footL
    rw [hO3.cell 0]
    rfl
  have hsub : Sub (b5 :: [g]) (b5 :: G) W.heap.size := fun k hk => by
    simp only [List.mem_cons, List.not_mem_nil, or_false] at hk
    rcases hk with rfl | rfl
    · exact .inl (by simp)
    · rcases hgG with h | h
      · exact .inl (by simp [h])
      · exact .inr (Nat.le_of_lt h)
  have hcells : ∀ k ∈ b5 :: G, ∀ o, W.heap[k]? = some o → o.isCells = true := fun k hk o ho => by
    rcases List.mem_cons.1 hk with rfl | hk
    · unfold Own at hO
      rw [hO] at ho
      cases ho
      rfl
    · rcases ha with ⟨_, _, rfl⟩ | ⟨g', cap', sp, _, rfl, _, _, h3, _⟩
      · cases hk
      · simp only [List.mem_singleton] at hk
        subst hk
        unfold Own at h3
        rw [h3] at ho
        cases ho
        rfl
  refine ⟨hO1, k3.keeps hcells _, Kf.of_kept k3 (fun k hk => by rw [hf]; exact hk) (by rw [hf, hf3]; exact hsub) (fun k hk => ?_), hO3, ha3, hgw, k3⟩
  rw [hf3] at hk
  simp only [List.mem_cons, List.not_mem_nil, or_false] at hk
  rcases hk with rfl | rfl
  · exact hO3.lt
  · rcases ha3 with ⟨h, _⟩ | ⟨g', cap', sp, h, hgg, _, _, h3, _⟩
    · cases h
    · injection hgg with hgg
      subst hgg
      exact h3.lt
/-- the box of a list of terms, between two rounds. -/
structure TsI (w : World) (b3 : Nat) (L : List TTm) (Ds : List Nat) (W : World) : Prop where
  o3 : ∃ v G, Own W b3 47 [v] ∧ MArr 58 W v L G ∧ ∀ g ∈ G, b3 ≠ g ∧ w.heap.size ≤ g
  ds : ∀ D ∈ Ds, W.heap[D]? = some (.deferred (some []))
  low : Below w.heap.size w W
  le : w.heap.size ≤ b3
section
variable {w X Y : World} {b3 B : Nat} {L : List TTm} {Ds : List Nat}
theorem TsI.calm (h : TsI w b3 L Ds X) (hc : Calm B X Y) (hB : w.heap.size ≤ B) (hD : ∀ D ∈ Ds, D < B) : TsI w b3 L Ds Y := by
  obtain ⟨⟨v, G, h1, h2, h3⟩, h4, h5, h6⟩ := h
  exact ⟨⟨v, G, hc.own h1, h2.calm hc, h3⟩, fun D hd => hc.block D _ (h4 D hd) (.inl (hD D hd)), Below.calm h5 hc (Nat.le_refl _) hB, h6⟩
theorem TsI.below (h : TsI w b3 L Ds X) (hb : Below X.heap.size X Y) : TsI w b3 L Ds Y := h.calm (B := X.heap.size) (Calm.of_below _ hb) h.low.size fun D hD => (Array.getElem?_eq_some_iff.1 (h.ds D hD)).1
theorem TsI.step {W w1 : World} {x : TTm} {v : Value} {G : List Nat} {B0 n g cap : Nat} {tmp : Obj} (h : TsI w b3 L Ds W)
    (hO : Own W b3 47 [v]) (ha : MArr 58 W v L G) (hG : ∀ k ∈ G, b3 ≠ k ∧ w.heap.size ≤ k)
    (ho : w1.ownsRow 0 58 4 (.slice (some ⟨g, 0, none⟩) n cap) n (flatM L ++ tmC x)) (hg : (W.alloc tmp).grownBy w1 v.ownBlock) (hat : (Value.slice (some ⟨g, 0, none⟩) n cap).ownBlock = v.ownBlock ∨ (Value.slice (some ⟨g, 0, none⟩) n cap).ownBlock = some (W.alloc tmp).heap.size) :
    Own w1 b3 47 [v] ∧ KeepsFrom B0 W (w1.setCell ⟨b3, 0, none⟩ (.slice (some ⟨g, 0, none⟩) n cap)) ∧ Kf [] b3 0 W (w1.setCell ⟨b3, 0, none⟩ (.slice (some ⟨g, 0, none⟩) n cap)) ∧ TsI w b3 (L ++ [x]) Ds (w1.setCell ⟨b3, 0, none⟩ (.slice (some ⟨g, 0, none⟩) n cap)) := by
  obtain ⟨h1, h2, h3, h4, h5, h6, h7⟩ := m_step (B0 := B0) hO ha hG h.le ho hg hat
  refine ⟨h1, h2, h3, ⟨⟨_, _, h4, h5, fun k hk => ?_⟩, fun D hD => ?_, h.low.trans (h7.below h.low.size fun k hk => ?_), h.le⟩⟩
  · simp only [List.mem_singleton] at hk
    subst hk
    exact h6
  · have hd := h.ds D hD
    refine (h7.block D (Array.getElem?_eq_some_iff.1 hd).1 fun hm => ?_).trans hd
    rcases List.mem_cons.1 hm with rfl | hm
    · unfold Own at hO
      rw [hO] at hd
      cases hd
    · rcases ha with ⟨_, _, rfl⟩ | ⟨g', cap', sp, _, rfl, _, _, h3, _⟩
      · cases hm
      · simp only [List.mem_singleton] at hm
        subst hm
        unfold Own at h3
        rw [h3] at hd
        cases hd
  · rcases List.mem_cons.1 hk with rfl | hk
    · exact h.le
    · exact (hG _ hk).2
end
end Go.Proofs.YtikohamfnnlhcaaGreatDoor
