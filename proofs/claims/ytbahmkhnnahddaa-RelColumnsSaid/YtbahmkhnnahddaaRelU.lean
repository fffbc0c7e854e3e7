/- slices.Collect of a relation's iterator. Conditions: at most 2000 tuples. -/
import Derived.Test.YtbahmkhnnahddaaRelT
import Derived.Maps.OwnIn
import Derived.Maps.AppendAt
namespace Go.Proofs.Ytbahmkhnnahddaa
open Go.RowKit Go.Deep Go.Shelf
attribute [local go_sem] Oper.semAt_some

/-- a row in a block that is new since w. -/
def NewT (w : World) (t : TV) : Prop := ∀ g o, t.1 = some ⟨g, o, none⟩ → w.heap.size ≤ g
/-- new tuples in a new slice. -/
def CollPost (w : World) (L : List (List V3)) (e : Ending) (w' : World) : Prop :=
  ∃ v xs G, e = .returned v ∧ lists xs = L ∧ Arr w' v xs G ∧ (∀ g ∈ G, w.heap.size ≤ g) ∧ (∀ t ∈ xs, RowO G w' t.1 t.2.2 ∧ (t.1 = none → t.2.1 = 0) ∧ NewT w t) ∧ Below w.heap.size w w'
/-- the slice in its box, between two rounds. -/
def CollI (w : World) (pre : List TV) (W : World) : Prop :=
  ∃ v G, Own W w.heap.size 31 [v] ∧ Arr W v pre G ∧ (∀ g ∈ G, w.heap.size < g) ∧ (∀ t ∈ pre, RowO (w.heap.size :: G) W t.1 t.2.2 ∧ (t.1 = none → t.2.1 = 0) ∧ NewT w t) ∧ Below w.heap.size w W
theorem CollI.calm {w : World} {B : Nat} {pre : List TV} {X Y : World} (h : CollI w pre X) (hc : Calm B X Y) (hB : w.heap.size ≤ B) : CollI w pre Y := by
  obtain ⟨v, G, h1, h2, h3, h4, h5⟩ := h
  exact ⟨v, G, hc.own h1, h2.calm hc, h3, fun t ht => ⟨(h4 t ht).1.calm hc, (h4 t ht).2⟩, Below.calm h5 hc (Nat.le_refl _) hB⟩
theorem owns_val {w : World} {base n : Nat} {e : TypeId} {v : Value} {xs : List Value} (h : w.ownsRow base e 1 v (n + 1) xs) : ∃ g cap, v = .slice (some ⟨g, 0, none⟩) (n + 1) cap := by
  obtain ⟨_, ⟨_, h2⟩ | ⟨g, cap, cur, h2, _⟩⟩ := h
  · omega
  · exact ⟨g, cap, h2⟩

theorem Sub_nil (S : List Nat) (n : Nat) : Sub [] S n := fun _ h => by cases h
theorem not_own {w : World} {G : List Nat} (h : ∀ g ∈ G, w.heap.size < g) : w.heap.size ∉ G := fun hm => by have := h _ hm; omega
/-- one more in the slice, stored in its box. -/
theorem coll_step {w W w1 : World} {B0 n : Nat} {pre : List TV} {x : TV} {v : Value} {G : List Nat} {g cap : Nat} {tmp : Obj}
    (hO : Own W w.heap.size 31 [v]) (ha : Arr W v pre G) (hG : ∀ g ∈ G, w.heap.size < g) (hr : ∀ t ∈ pre, RowO (w.heap.size :: G) W t.1 t.2.2 ∧ (t.1 = none → t.2.1 = 0) ∧ NewT w t) (hb : Below w.heap.size w W)
    (hx : RowO (footL [] w.heap.size 0 W) W x.1 x.2.2) (hxn : x.1 = none → x.2.1 = 0) (hxw : NewT w x)
    (ho : w1.ownsRow 0 35 1 (.slice (some ⟨g, 0, none⟩) n cap) n (pre.map tval ++ [tval x])) (hg : (W.alloc tmp).grownBy w1 v.ownBlock) (hat : (Value.slice (some ⟨g, 0, none⟩) n cap).ownBlock = v.ownBlock ∨ (Value.slice (some ⟨g, 0, none⟩) n cap).ownBlock = some (W.alloc tmp).heap.size) :
    KeepsFrom B0 W (w1.setCell ⟨w.heap.size, 0, none⟩ (.slice (some ⟨g, 0, none⟩) n cap)) ∧ Kf [] w.heap.size 0 W (w1.setCell ⟨w.heap.size, 0, none⟩ (.slice (some ⟨g, 0, none⟩) n cap)) ∧ CollI w (pre ++ [x]) (w1.setCell ⟨w.heap.size, 0, none⟩ (.slice (some ⟨g, 0, none⟩) n cap)) := by
  have hf : footL [] w.heap.size 0 W = w.heap.size :: G := foot_arr [] (hO.cell 0) ha
  rw [hf] at hx
  have hbl := ha.block
  have kw1 : Kept G W w1 := ((Kept.refl G W).alloc tmp).trans (Kept.grown hg hbl) (fun k hk => .inl hk)
  have kw1' : Kept (w.heap.size :: G) W w1 := kw1.more (fun k hk => List.mem_cons_of_mem _ hk)
  have k3 : Kept (w.heap.size :: G) W (w1.setCell ⟨w.heap.size, 0, none⟩ (.slice (some ⟨g, 0, none⟩) n cap)) := kw1'.setCell (.inl (by simp)) _
  have hgG : g ∈ G ∨ W.heap.size < g := by
    rcases hat with h | h
    · exact .inl (hbl g h.symm)
    · injection h with h
      simp at h
      omega
  have hgw : w.heap.size < g := by
    rcases hgG with h | h
    · exact hG g h
    · have := hb.size
      omega
  have hnG : w.heap.size ∉ G := fun h => by have := hG _ h; omega
  have hO1 : Own w1 w.heap.size 31 [v] := kw1.own hO hnG
  have hO3 := hO1.set 0 (.slice (some ⟨g, 0, none⟩) n cap)
  have ha1 : Arr w1 (.slice (some ⟨g, 0, none⟩) n cap) (pre ++ [x]) [g] := Arr.of_owns (by rw [List.map_append]; exact ho)
  have ha3 : Arr (w1.setCell ⟨w.heap.size, 0, none⟩ (.slice (some ⟨g, 0, none⟩) n cap)) (.slice (some ⟨g, 0, none⟩) n cap) (pre ++ [x]) [g] :=
    ha1.kept ((Kept.refl [w.heap.size] w1).setCell (.inl (by simp)) _) (fun k hk => by simp only [List.mem_singleton] at hk ⊢; omega)
  have hf3 : footL [] w.heap.size 0 (w1.setCell ⟨w.heap.size, 0, none⟩ (.slice (some ⟨g, 0, none⟩) n cap)) = w.heap.size :: [g] := foot_arr [] (hO3.cell 0) ha3
  have hsub : Sub (w.heap.size :: [g]) (w.heap.size :: G) W.heap.size := fun k hk => by
    simp only [List.mem_cons, List.not_mem_nil, or_false] at hk
    rcases hk with rfl | rfl
    · exact .inl (by simp)
    · rcases hgG with h | h
      · exact .inl (by simp [h])
      · exact .inr (Nat.le_of_lt h)
  have hcells : ∀ k ∈ w.heap.size :: G, ∀ o, W.heap[k]? = some o → o.isCells = true := fun k hk o ho => by
    rcases List.mem_cons.1 hk with rfl | hk
    · unfold Own at hO
      rw [hO] at ho
      cases ho
      rfl
    · rcases ha with ⟨_, _, rfl⟩ | ⟨g', sp, _, rfl, h3, _⟩
      · cases hk
      · simp only [List.mem_singleton] at hk
        subst hk
        unfold Own at h3
        rw [h3] at ho
        cases ho
        rfl
  refine ⟨k3.keeps hcells _, Kf.of_kept k3 (fun k hk => by rw [hf]; exact hk) (by rw [hf, hf3]; exact hsub) (fun k hk => ?_), .slice (some ⟨g, 0, none⟩) n cap, [g], hO3, ha3, (fun k hk => ?_), fun t ht => ?_, ?_⟩
  · rw [hf3] at hk
    simp only [List.mem_cons, List.not_mem_nil, or_false] at hk
    rcases hk with rfl | rfl
    · exact hO3.lt
    · rcases ha3 with ⟨h, _⟩ | ⟨g', sp, h, hgg, h3, _⟩
      · cases h
      · injection hgg with hgg
        subst hgg
        exact h3.lt
  · simp only [List.mem_singleton] at hk
    subst hk
    exact hgw
  · rcases List.mem_append.1 ht with ht | ht
    · exact ⟨(hr t ht).1.kept k3 hsub, (hr t ht).2⟩
    · simp only [List.mem_singleton] at ht
      subst ht
      exact ⟨hx.kept k3 hsub, hxn, hxw⟩
  · exact hb.trans (k3.below hb.size (fun k hk => by
      rcases List.mem_cons.1 hk with rfl | hk
      · exact Nat.le_refl _
      · exact Nat.le_of_lt (hG k hk)))

set_option maxRecDepth 100000 in
set_option maxHeartbeats 2000000 in
theorem AppendSeq_any (br bw g : Nat) (rv : Value) (pa ca : Array Value) (A : Option Addr) (c : Nat) (ts : List TV) (p : List V3 → Bool) (w : World)
    (hbr : w.cell? ⟨br, 0, none⟩ = some rv) (hbw : w.cell? ⟨bw, 0, none⟩ = some (.func (.func g) pa ca))
    (hlist : ∀ W', Calm 0 w W' → Calls Try.prog 60 #[rv] W' fun e w' => e = .returned (.slice A ts.length c) ∧ W' = w')
    (hA : A = none → c = 0) (hl : Lst [] w A ts) (hnn : ∀ t ∈ ts, (t.1 = none → t.2.1 = 0) ∧ t.2.2.length ≤ 100) (hlen : ts.length ≤ 2000)
    (eg : ∀ args w, (callFunc g args).run Try.prog w = .ok (.enter g args) w)
    (hwant : ∀ t W', t ∈ ts → Calm 0 w W' → Calls Try.prog g (pa.push (tval t) ++ ca) W' fun e w' => e = .returned (.bool (p t.2.2)) ∧ Below W'.heap.size W' w') :
    Calls Try.prog 83 #[.slice none 0 0, .func (.func 75) #[] #[.pointer (some ⟨br, 0, none⟩), .pointer (some ⟨bw, 0, none⟩)]] w fun e w' => CollPost w ((lists ts).filter p) e w' := by
  refine (callsIn_wide (n := 9)).1 ?_
  obtain ⟨i0, hi0, hz0, hzs, hzb⟩ := info_parts infoTup
  have hF : Fence.wide.fn 75 := trivial
  have hF83 : Fence.wide.fn 83 := trivial
  have HLi := Lib.hid hlist
  have HL := Lib.hid hl
  have HN := Lib.hid hnn
  have HW := Lib.hid hwant
  have qbr := World.block_lt_of_cell? w _ hbr
  have qbw := World.block_lt_of_cell? w _ hbw
  clear hlist hl hnn hwant
  refine callsIn_of_wp_marks Try.func83 rfl hF83 ?_ rfl
  simp only [Try.ntmps83, List.size_toArray, List.length_cons, List.length_nil, Nat.reduceAdd, Nat.reduceSub, Array.replicate_succ, Array.replicate_zero, List.push_toArray, List.append_toArray, List.nil_append, List.cons_append]
  gi_wp2_with fail
  have hc0 : Calm 0 w (w.alloc (.cells #[.slice none 0 0] 31)) := Calm.alloc _ _ _
  have hO0 : Own (w.alloc (.cells #[.slice none 0 0] 31)) w.heap.size 31 [.slice none 0 0] := heap_alloc_new w _
  have hf0 : footL [] w.heap.size 0 (w.alloc (.cells #[.slice none 0 0] 31)) = [w.heap.size] := foot_arr (ts := []) (G := []) [] (hO0.cell 0) (.inl ⟨rfl, rfl, rfl⟩)
  obtain ⟨W0, hW0⟩ : ∃ W0, W0 = w.alloc (.cells #[.slice none 0 0] 31) := ⟨_, rfl⟩
  have hs0 : W0.heap.size = w.heap.size + 1 := by rw [hW0]; simp
  rw [← hW0] at hc0 hO0 hf0 ⊢
  have hb0 : Below w.heap.size w W0 := by rw [hW0]; exact (Below.refl _ _).alloc (Nat.le_refl _) _
  clear hW0
  refine range_law (Kp := Kf [] w.heap.size 0) (Px := Yd [] w.heap.size 0 w.heap.size ((lists ts).filter p)) (S := fun xs => lists xs = (lists ts).filter p) (Sp := fun pre => lists pre <+: (lists ts).filter p) (encs := fun x : TV => #[tval x]) rfl (by omega) (gf := 75) (lb := #[.pointer (some ⟨br, 0, none⟩), .pointer (some ⟨bw, 0, none⟩)]) rfl hF (enters_of Try.func75 (by kernel_rfl) rfl)
    ?seq (fun h h' => h.trans h') (fun X Y hX hc => Kf.of_calm hc (by omega) (by omega)) (fun _ => rfl)
    (CollI w) (fun _ _ _ => False) (fun s X Y h hc => h.calm hc (by omega)) (fun _ _ _ _ h _ => h)
    (fun pre x X Y h hc => ?px) ?i0
    (fun x => { tmps := #[.slice none 0 0, .func (.func 75) #[] #[.pointer (some ⟨br, 0, none⟩), .pointer (some ⟨bw, 0, none⟩)], .pointer (some ⟨w.heap.size, 0, none⟩), undef, .slice none 0 0, tval x, .func (.func 75) #[] #[.pointer (some ⟨br, 0, none⟩), .pointer (some ⟨bw, 0, none⟩)], tval x, undef, undef, undef, undef, undef], defers := [] }) ?assign ?body ?done ?stop
  case seq =>
    intro l J Jx W hW hJ hJx hY h0
    have hcW : Calm 0 W0 W := Calm.of_below 0 hW
    have hcw : Calm 0 w W := hc0.trans hcW
    have hfW : footL [] w.heap.size 0 W = [w.heap.size] := by rw [foot_same (hW.cell (p := ⟨w.heap.size, 0, none⟩) (by show w.heap.size < _; omega)), hf0]
    have hwW : w.heap.size < W.heap.size := by have := hW.size; omega
    refine those_in 8 (by omega) l [] w.heap.size 0 w.heap.size br bw g rv pa ca A c ts p J Jx W (Nat.le_of_lt hwW) hwW (hcw.cell hbr) (hcw.cell hbw) (by rw [hfW]; simp; omega) (fun W' hb' => HLi.out W' (hcw.trans (Calm.of_below 0 hb'))) hA (HL.out.calm hcw) (fun t ht => ⟨?_, HN.out t ht⟩) hlen (by rw [hfW]; simpa using hwW) eg
      (fun t W' ht hk _ => HW.out t W' ht (hk.calm (by rw [hfW]; simp) hcw)) hJ hJx hY h0
    rw [hfW]
    exact ((HL.out.2 t ht).kept (Kept.refl [] w) (S' := [w.heap.size]) (fun k hk => .inr (by simp at hk; omega))).calm hcw
  case px =>
    obtain ⟨h1, h2, h3, h4, h5⟩ := h
    refine ⟨h1, ?_, h3, Nat.lt_of_lt_of_le h4 hc.size, h5⟩
    rw [foot_same (calm_cell hc h4 (by omega))]
    exact h2.calm hc
  case i0 => exact ⟨_, [], hO0, .inl ⟨rfl, rfl, rfl⟩, (fun _ h => by cases h), (fun _ h => by cases h), hb0⟩
  case assign =>
    intro l x W K hK
    gi_wp2
    exact hK
  case body =>
    rintro l pre x W ⟨v, G, hO, ha, hG, hr, hb⟩ ⟨hpre, hx, hxn, _, hxw⟩
    have hlp : pre.length ≤ 2000 := by
      have h1 := hpre.length_le
      have h2 : ((lists ts).filter p).length ≤ (lists ts).length := List.length_filter_le _ _
      simp only [List.length_map, List.length_append, List.length_singleton] at h1 h2
      omega
    have hc := hO.cell 0
    have q1 := hO.lt
    obtain ⟨A0, c0, rfl⟩ := ha.val
    obtain ⟨X, xc, xl⟩ := x
    have HO := Lib.hid ((ha.kept ((Kept.refl [] W).alloc (.cells #[.slice X xl.length xc] 35)) (fun _ _ h => by cases h)).owns)
    have HA := Lib.hid ha
    have HOw := Lib.hid hO
    have HG := Lib.hid hG
    have HR := Lib.hid hr
    have HB := Lib.hid hb
    have HX := Lib.hid hx
    have hnews : ∀ j u, [Value.slice X xl.length xc][j]? = some u → (W.alloc (.cells #[.slice X xl.length xc] 35)).cell? ((⟨W.heap.size, 0, none⟩ : Addr).add j) = some u := fun j u hj => by
      have hv : Own (W.alloc (.cells #[.slice X xl.length xc] 35)) W.heap.size 35 [.slice X xl.length xc] := heap_alloc_new W _
      rw [Addr.add_lit, Nat.zero_add, hv.cell]
      exact hj
    have HNw := Lib.hid hnews
    clear hO ha hG hr hb hx hpre hnews hbr hbw hc0 hO0 hf0 hb0
    have hb1 : pre.length + 1 ≤ maxLen := by unfold maxLen; omega
    have hb2 : (pre.length + 1) * 24 ≤ 140737488355328 := by omega
    have hone : ∀ u ∈ [Value.slice X xl.length xc], u.oneCell' = true := by simp [Value.oneCell']
    gi_wp2_with (gi_at_builtin; refine wpListIn_append_own_at _ rfl _ _ 31 rfl 0 35 i0 _ 1 24 Try.underlying31 hi0 hz0 hzs hzb rfl (by decide) (.slice A0 pre.length c0) pre.length (pre.map tval) rfl HO.out ⟨W.heap.size, 0, none⟩ 1 1 [.slice X xl.length xc] rfl rfl HNw.out hone hb1 hb2 (Nat.zero_le _) ?_; intro v' w1 ho hg _ hat; obtain ⟨g1, cap1, rfl⟩ := owns_val ho; have HQ := Lib.hid (coll_step (x := (X, xc, xl)) (B0 := w.heap.size + 1) HOw.out HA.out HG.out HR.out HB.out HX.out hxn hxw ho hg hat); have k1 := (((Kept.refl G W).alloc (.cells #[.slice X xl.length xc] 35)).trans (Kept.grown hg (HA.out.block)) (Sub.refl _ _)).own HOw.out (not_own HG.out); have h1 := k1.cell 0; have f1 := k1.frozen 0; have q3 := k1.lt; clear ho hg hat k1)
    exact HQ.out
  case done =>
    rintro D ys W hD hys ⟨v, G, hO, ha, hG, hr, hb⟩ hK
    have hc := hO.cell 0
    have q1 := hO.lt
    obtain ⟨A0, c0, rfl⟩ := ha.val
    have hcm : Calm W0.heap.size W (W.putObj D (.deferred none)) := Calm.put _ hK rfl hD
    have HQ : Hid (CollPost w ((lists ts).filter p) (.returned (.slice A0 ys.length c0)) (W.putObj D (.deferred none))) :=
      ⟨_, ys, G, rfl, hys, ha.calm hcm, fun g hg => Nat.le_of_lt (hG g hg), fun t ht => ⟨((hr t ht).1.calm hcm).fewer (fun k hk => .inl (List.mem_cons_of_mem _ hk)), (hr t ht).2⟩, Below.calm hb hcm (Nat.le_refl _) (by omega)⟩
    clear hO ha hG hr hb hys hcm
    gi_wp2
    refine ⟨by simp, .inl ⟨_, _, rfl, run_takeDeferred hK, ?_⟩⟩
    exact ⟨.slice A0 ys.length c0, (by simp [results, Try.results83, go_sem]), HQ.out⟩
  case stop =>
    rintro D c pre W _ _ h _
    exact h.elim
end Go.Proofs.Ytbahmkhnnahddaa
