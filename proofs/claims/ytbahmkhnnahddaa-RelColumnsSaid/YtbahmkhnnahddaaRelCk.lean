/- What RelColumns' walk keeps: the tuples that are gathered; the boxes between two rounds. Conditions: none. -/
import Derived.Test.YtbahmkhnnahddaaRelCd
import Derived.Test.YtbahmkhnnahddaaRelCe
import Derived.Test.YtbahmkhnnahddaaRelIs
import Derived.Maps.AppendAt
namespace Go.Proofs.Ytbahmkhnnahddaa
open Go.RowKit Go.Deep Go.Shelf

/-- the tuples that are gathered, in a slice of the call's own. -/
structure HereI (w1 : World) (v : V3) (hs : List TV) (wr : World) : Prop where
  low : Below w1.heap.size w1 wr
  o15 : Own wr (w1.heap.size + 1) 48 [.int .i64 v.1, .int .i64 v.2.1, .string v.2.2]
  o14 : ∃ v14 G, Own wr w1.heap.size 31 [v14] ∧ Arr wr v14 hs G ∧ ∀ g ∈ G, w1.heap.size + 2 ≤ g
section
variable {w1 wr w' : World} {v : V3} {hs : List TV}
theorem HereI.below (h : HereI w1 v hs wr) (hb : Below wr.heap.size wr w') : HereI w1 v hs w' := by
  obtain ⟨h1, h2, v14, G, h3, h4, h5⟩ := h
  exact ⟨h1.trans (hb.mono h1.size), h2.below hb, v14, G, h3.below hb, h4.kept (Kept.of [] hb) (fun _ _ h => by cases h), h5⟩
theorem HereI.step {n g cap : Nat} {x : TV} {v0 : Value} {G : List Nat} {tmp : Obj} (h : HereI w1 v hs wr)
    (hO : Own wr w1.heap.size 31 [v0]) (ha : Arr wr v0 hs G) (hG : ∀ g ∈ G, w1.heap.size + 2 ≤ g)
    (ho : w'.ownsRow 0 35 1 (.slice (some ⟨g, 0, none⟩) n cap) n (hs.map tval ++ [tval x])) (hg : (wr.alloc tmp).grownBy w' v0.ownBlock) (hat : (Value.slice (some ⟨g, 0, none⟩) n cap).ownBlock = v0.ownBlock ∨ (Value.slice (some ⟨g, 0, none⟩) n cap).ownBlock = some (wr.alloc tmp).heap.size) :
    HereI w1 v (hs ++ [x]) (w'.setCell ⟨w1.heap.size, 0, none⟩ (.slice (some ⟨g, 0, none⟩) n cap)) ∧ Own w' w1.heap.size 31 [v0] := by
  have hbl := ha.block
  have hsz := h.low.size
  have h15 := h.o15
  have l15 := h15.lt
  have kw1 : Kept G wr w' := ((Kept.refl G wr).alloc tmp).trans (Kept.grown hg hbl) (fun k hk => .inl hk)
  have hgG : g ∈ G ∨ wr.heap.size < g := by
    rcases hat with h | h
    · exact .inl (hbl g h.symm)
    · injection h with h
      simp at h
      omega
  have hgw : w1.heap.size + 2 ≤ g := by
    rcases hgG with h | h
    · exact hG g h
    · omega
  have hnG : w1.heap.size ∉ G := fun h => by have := hG _ h; omega
  have hnG1 : w1.heap.size + 1 ∉ G := fun h => by have := hG _ h; omega
  have hO1 : Own w' w1.heap.size 31 [v0] := kw1.own hO hnG
  have hO3 := hO1.set 0 (.slice (some ⟨g, 0, none⟩) n cap)
  have ha1 : Arr w' (.slice (some ⟨g, 0, none⟩) n cap) (hs ++ [x]) [g] := Arr.of_owns (by rw [List.map_append]; exact ho)
  have ks : Kept [w1.heap.size] w' (w'.setCell ⟨w1.heap.size, 0, none⟩ (.slice (some ⟨g, 0, none⟩) n cap)) := (Kept.refl [w1.heap.size] w').setCell (.inl (by simp)) _
  have ha3 := ha1.kept ks (fun k hk => by simp only [List.mem_singleton] at hk ⊢; omega)
  have h15' := ks.own (kw1.own h15 hnG1) (by simp)
  refine ⟨⟨?_, h15', _, [g], hO3, ha3, fun k hk => by simp only [List.mem_singleton] at hk; omega⟩, hO1⟩
  have kall : Kept (w1.heap.size :: G) wr (w'.setCell ⟨w1.heap.size, 0, none⟩ (.slice (some ⟨g, 0, none⟩) n cap)) := (kw1.more (fun k hk => List.mem_cons_of_mem _ hk)).setCell (.inl (by simp)) _
  exact h.low.trans (kall.below hsz (fun k hk => by
    rcases List.mem_cons.1 hk with rfl | hk
    · exact Nat.le_refl _
    · have := hG _ hk; omega))
end

/-- the relation, the gathered list and the boxes, between two rounds. -/
structure ClI (w : World) (b b14 b18 : Nat) (a : Int) (st : Int) (H : Option Addr) (hc : Nat) (ts hs : List TV) (S : List Nat) (k : Nat) (W : World) : Prop where
  r : RelAt W b a ts S
  u : Lst [] W H hs
  o5 : Own W w.heap.size 3 [.int .i64 st]
  o6 : Own W (w.heap.size + 1) 4 [.bool false]
  o14 : Own W b14 31 [.slice H hs.length hc]
  o18 : Own W b18 3 [.int .i64 k]
  low : Below w.heap.size w W
section
variable {w : World} {b b14 b18 : Nat} {a st : Int} {H : Option Addr} {hc : Nat} {ts hs : List TV} {S : List Nat} {k B : Nat} {U V : World}
theorem ClI.calm (h : ClI w b b14 b18 a st H hc ts hs S k U) (hm : Calm B U V) (hB : w.heap.size ≤ B) : ClI w b b14 b18 a st H hc ts hs S k V :=
  ⟨h.r.calm hm, h.u.calm hm, hm.own h.o5, hm.own h.o6, hm.own h.o14, hm.own h.o18, Below.calm h.low hm (Nat.le_refl _) hB⟩
theorem ClI.below (h : ClI w b b14 b18 a st H hc ts hs S k U) (hb : Below U.heap.size U V) : ClI w b b14 b18 a st H hc ts hs S k V :=
  h.calm (B := w.heap.size) (Calm.of_below _ hb) (Nat.le_refl _)
/-- the count goes up by one. -/
theorem ClI.bump (h : ClI w b b14 b18 a st H hc ts hs S k U) (h18 : w.heap.size + 2 ≤ b18) (h14 : b14 ≠ b18) (k' : Nat) :
    ClI w b b14 b18 a st H hc ts hs S k' (U.setCell ⟨b18, 0, none⟩ (.int .i64 k')) := by
  have kb : Kept [b18] U (U.setCell ⟨b18, 0, none⟩ (.int .i64 k')) := (Kept.refl _ U).setCell (.inl (by simp)) _
  have hnS := h.r.off_box h.o18
  have off : ∀ {A : Option Addr} {l : List V3} {T : List Nat}, RowO T U A l → RowO [b18] U A l := fun hr => (hr.off_box h.o18).fewer (fun k hk => .inl (by simp only [List.mem_singleton] at hk; simp [hk]))
  refine ⟨h.r.kept kb (fun g hg hm => hnS (by simp only [List.mem_singleton] at hm; rw [← hm]; exact hg)) (fun t ht => off (h.r.rows t ht)), ?_, kb.own h.o5 (by simp only [List.mem_singleton]; omega), kb.own h.o6 (by simp only [List.mem_singleton]; omega), kb.own h.o14 (by simpa using h14), h.o18.set 0 _, h.low.setCell (p := ⟨b18, 0, none⟩) (by simp only; omega) _⟩
  refine ⟨fun h0 => ?_, fun t ht => ((off (h.u.2 t ht)).kept kb (Sub.refl _ _)).fewer (fun k hk => by cases hk)⟩
  obtain ⟨b1', o1, e1, l1, _, c1⟩ := h.u.1 h0
  have hne : b1' ∉ [b18] := fun hm => by
    simp only [List.mem_singleton] at hm
    subst hm
    have h3 := c1 0 _ (List.getElem?_eq_getElem h0)
    rw [h.o18.cell] at h3
    cases o1 with
    | zero => simp at h3
    | succ o1 => simp at h3
  exact ⟨b1', o1, e1, Nat.lt_of_lt_of_le l1 kb.size, List.not_mem_nil, fun i t ht => (kb.cell (p := ⟨b1', o1 + i, none⟩) l1 hne).trans (c1 i t ht)⟩
end
/-- a store into a box of a number leaves a relation and a list as they are. -/
theorem rel_set {U : World} {b q : Nat} {a x y : Int} {ts hs : List TV} {S : List Nat} {H : Option Addr} (hr : RelAt U b a ts S) (hu : Lst [] U H hs) (ho : Own U q 3 [.int .i64 x]) :
    RelAt (U.setCell ⟨q, 0, none⟩ (.int .i64 y)) b a ts S ∧ Lst [] (U.setCell ⟨q, 0, none⟩ (.int .i64 y)) H hs := by
  have kb : Kept [q] U (U.setCell ⟨q, 0, none⟩ (.int .i64 y)) := (Kept.refl _ U).setCell (.inl (by simp)) _
  have hnS := hr.off_box ho
  have off : ∀ {A : Option Addr} {l : List V3} {T : List Nat}, RowO T U A l → RowO [q] U A l := fun hr => (hr.off_box ho).fewer (fun k hk => .inl (by simp only [List.mem_singleton] at hk; simp [hk]))
  refine ⟨hr.kept kb (fun g hg hm => hnS (by simp only [List.mem_singleton] at hm; rw [← hm]; exact hg)) (fun t ht => off (hr.rows t ht)), fun h0 => ?_, fun t ht => ((off (hu.2 t ht)).kept kb (Sub.refl _ _)).fewer (fun k hk => by cases hk)⟩
  obtain ⟨b1', o1, e1, l1, _, c1⟩ := hu.1 h0
  have hne : b1' ∉ [q] := fun hm => by
    simp only [List.mem_singleton] at hm
    subst hm
    have h3 := c1 0 _ (List.getElem?_eq_getElem h0)
    rw [ho.cell] at h3
    cases o1 with
    | zero => simp at h3
    | succ o1 => simp at h3
  exact ⟨b1', o1, e1, Nat.lt_of_lt_of_le l1 kb.size, List.not_mem_nil, fun i t ht => (kb.cell (p := ⟨b1', o1 + i, none⟩) l1 hne).trans (c1 i t ht)⟩
/-- what Where lays. -/
theorem where_mem (q w' : World) (b : Nat) (z : Int) (x : V3) (f : Value)
    (h : w' = (((q.alloc (.cells #[.int .i64 z] 3)).alloc (.cells #[.int .i64 x.1, .int .i64 x.2.1, .string x.2.2] 48)).alloc (.cells #[rp b] 24)).alloc (.cells #[f] 39)) :
    Below q.heap.size q w' ∧ Own w' q.heap.size 3 [.int .i64 z] ∧ Own w' (q.heap.size + 1) 48 [.int .i64 x.1, .int .i64 x.2.1, .string x.2.2] ∧ Own w' (q.heap.size + 2) 24 [rp b] ∧ Own w' (q.heap.size + 3) 39 [f] := by
  subst h
  have h1 : Own (q.alloc (.cells #[.int .i64 z] 3)) q.heap.size 3 [.int .i64 z] := heap_alloc_new _ _
  have h2 := heap_alloc_new (q.alloc (.cells #[.int .i64 z] 3)) (.cells #[.int .i64 x.1, .int .i64 x.2.1, .string x.2.2] 48)
  have h3 := heap_alloc_new ((q.alloc (.cells #[.int .i64 z] 3)).alloc (.cells #[.int .i64 x.1, .int .i64 x.2.1, .string x.2.2] 48)) (.cells #[rp b] 24)
  have h4 := heap_alloc_new (((q.alloc (.cells #[.int .i64 z] 3)).alloc (.cells #[.int .i64 x.1, .int .i64 x.2.1, .string x.2.2] 48)).alloc (.cells #[rp b] 24)) (.cells #[f] 39)
  simp only [World.size_alloc] at h2 h3 h4
  have h2' : Own ((q.alloc (.cells #[.int .i64 z] 3)).alloc (.cells #[.int .i64 x.1, .int .i64 x.2.1, .string x.2.2] 48)) (q.heap.size + 1) 48 [.int .i64 x.1, .int .i64 x.2.1, .string x.2.2] := h2
  have h3' : Own (((q.alloc (.cells #[.int .i64 z] 3)).alloc (.cells #[.int .i64 x.1, .int .i64 x.2.1, .string x.2.2] 48)).alloc (.cells #[rp b] 24)) (q.heap.size + 2) 24 [rp b] := h3
  refine ⟨((((Below.refl _ _).alloc (Nat.le_refl _) _).alloc (by simp) _).alloc (by simp; omega) _).alloc (by simp; omega) _, ((h1.alloc _).alloc _).alloc _, (h2'.alloc _).alloc _, h3'.alloc _, h4⟩
/-- the stop, from 1 to 10. -/
theorem stop_range (st : Int) : ∃ q : Nat, wrap64 (1 + wrap64 ((IntKind.u64.wrap st).tmod 10)) = (q : Int) ∧ 1 ≤ q ∧ q ≤ 10 := by
  have h0 : 0 ≤ IntKind.u64.wrap st := by
    rw [IntKind.wrap_u64]
    omega
  have h1 := Int.tmod_nonneg 10 h0
  have h2 := Int.tmod_lt_of_pos (IntKind.u64.wrap st) (b := 10) (by omega)
  generalize (IntKind.u64.wrap st).tmod 10 = m at h1 h2
  refine ⟨(m + 1).toNat, ?_, by omega, by omega⟩
  unfold wrap64
  omega
theorem fil_snoc {p : TV → Bool} {us : List TV} {k : Nat} (hk : k < us.length) : (us.take (k + 1)).filter p = (us.take k).filter p ++ (if p us[k] then [us[k]] else []) := by
  rw [List.take_succ_eq_append_getElem hk, List.filter_append]
  congr 1
  simp only [List.filter_cons, List.filter_nil]
theorem lists_filter (q : List V3 → Bool) (us : List TV) : lists (us.filter fun t => q t.2.2) = (lists us).filter q := by
  unfold lists
  rw [List.filter_map]
  rfl
end Go.Proofs.Ytbahmkhnnahddaa
