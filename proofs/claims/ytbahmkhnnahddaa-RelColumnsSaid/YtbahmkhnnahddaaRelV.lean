/- part and Copy of a relation. Conditions: at most 2000 tuples. -/
import Derived.Test.YtbahmkhnnahddaaRelU
import Derived.Deep.RegionWith
namespace Go.Proofs.Ytbahmkhnnahddaa
open Go.RowKit Go.Deep Go.Shelf

set_option maxRecDepth 100000 in
set_option maxHeartbeats 400000 in
theorem Collect_any (br bw g : Nat) (rv : Value) (pa ca : Array Value) (A : Option Addr) (c : Nat) (ts : List TV) (p : List V3 → Bool) (w : World)
    (hbr : w.cell? ⟨br, 0, none⟩ = some rv) (hbw : w.cell? ⟨bw, 0, none⟩ = some (.func (.func g) pa ca))
    (hlist : ∀ W', Calm 0 w W' → Calls Try.prog 60 #[rv] W' fun e w' => e = .returned (.slice A ts.length c) ∧ W' = w')
    (hA : A = none → c = 0) (hl : Lst [] w A ts) (hnn : ∀ t ∈ ts, (t.1 = none → t.2.1 = 0) ∧ t.2.2.length ≤ 100) (hlen : ts.length ≤ 2000)
    (eg : ∀ args w, (callFunc g args).run Try.prog w = .ok (.enter g args) w)
    (hwant : ∀ t W', t ∈ ts → Calm 0 w W' → Calls Try.prog g (pa.push (tval t) ++ ca) W' fun e w' => e = .returned (.bool (p t.2.2)) ∧ Below W'.heap.size W' w') :
    Calls Try.prog 70 #[.func (.func 75) #[] #[.pointer (some ⟨br, 0, none⟩), .pointer (some ⟨bw, 0, none⟩)]] w fun e w' => CollPost w ((lists ts).filter p) e w' := by
  have HS := Lib.hid (AppendSeq_any br bw g rv pa ca A c ts p w hbr hbw hlist hA hl hnn hlen eg hwant)
  clear hbr hbw hlist hl hnn hlen eg hwant hA
  go_enter Try.func70, Try.ntmps70
  go_wp2_with fail
  refine HS.out.mono ?_
  rintro e w1 ⟨v, xs, G, rfl, h1, h2, h3⟩
  obtain ⟨A0, n0, c0, rfl⟩ := h2.val3
  have HQ : Hid (CollPost w ((lists ts).filter p) (.returned (.slice A0 n0 c0)) w1) := ⟨_, xs, G, rfl, h1, h2, h3⟩
  clear h1 h2 h3
  go_wp2
  go_ret
  exact HQ.out

set_option maxRecDepth 100000 in
set_option maxHeartbeats 400000 in
theorem those_any (rv : Value) (g : Nat) (pa ca : Array Value) (b : Option Addr) (hrv : rv = .pointer b) (w : World) :
    Calls Try.prog 58 #[rv, .func (.func g) pa ca] w fun e w' => e = .returned (.func (.func 75) #[] #[.pointer (some ⟨w.heap.size, 0, none⟩), .pointer (some ⟨w.heap.size + 1, 0, none⟩)]) ∧
      w' = (w.alloc (.cells #[rv] 24)).alloc (.cells #[.func (.func g) pa ca] 39) := by
  subst hrv
  go_enter Try.func58, Try.ntmps58
  go_wp2
  go_ret
  exact ⟨rfl, rfl⟩

/-- a relation in new memory. -/
def NewRel (w : World) (a : Int) (L : List (List V3)) (b' : Nat) (w' : World) : Prop :=
  ∃ ts' S', RelAt w' b' a ts' S' ∧ lists ts' = L ∧ (∀ k ∈ S', w.heap.size ≤ k) ∧ Below w.heap.size w w'
def NewPost (w : World) (a : Int) (L : List (List V3)) (e : Ending) (w' : World) : Prop :=
  ∃ b' ts' S', e = .returned (rp b') ∧ RelAt w' b' a ts' S' ∧ lists ts' = L ∧ (∀ k ∈ S', w.heap.size ≤ k) ∧ (∀ t ∈ ts', NewT w t) ∧ Below w.heap.size w w'
theorem newT_le {w W : World} (h : w.heap.size ≤ W.heap.size) {t : TV} (ht : NewT W t) : NewT w t := fun g o e => Nat.le_trans h (ht g o e)
theorem two_of {xs : List TV} {p q r : TV → Prop} (h : ∀ t ∈ xs, p t ∧ q t ∧ r t) : ∀ t ∈ xs, p t ∧ q t := fun t ht => ⟨(h t ht).1, (h t ht).2.1⟩
theorem new_of {w W : World} {xs : List TV} {p q : TV → Prop} (hs : w.heap.size ≤ W.heap.size) (h : ∀ t ∈ xs, p t ∧ q t ∧ NewT W t) : ∀ t ∈ xs, NewT w t := fun t ht => newT_le hs (h t ht).2.2
theorem new_le {n m : Nat} {G : List Nat} (h : n ≤ m) (hG : ∀ g ∈ G, m ≤ g) : ∀ g ∈ G, n ≤ g := fun g hg => Nat.le_trans h (hG g hg)
/-- a slice of the call's own in a new record. -/
theorem rel_made {w w2 : World} {a : Int} {L : List (List V3)} {v : Value} {xs : List TV} {G : List Nat} (hb : Below w.heap.size w w2) (h1 : lists xs = L) (ha : Arr w2 v xs G) (hG : ∀ g ∈ G, w.heap.size ≤ g) (hr : ∀ t ∈ xs, RowO G w2 t.1 t.2.2 ∧ (t.1 = none → t.2.1 = 0)) (hnw : ∀ t ∈ xs, NewT w t) :
    NewPost w a L (.returned (rp w2.heap.size)) (w2.alloc (.cells #[.int .i64 a, v] 77)) := by
  have hlt : ∀ g ∈ G, g < w2.heap.size := fun g hg => by
    rcases ha with ⟨_, _, rfl⟩ | ⟨g', sp, _, rfl, h3, _⟩
    · cases hg
    · simp only [List.mem_singleton] at hg
      subst hg
      exact h3.lt
  have kk : Kept [] w2 (w2.alloc (.cells #[.int .i64 a, v] 77)) := (Kept.refl [] w2).alloc _
  have kg : Kept G w2 (w2.alloc (.cells #[.int .i64 a, v] 77)) := (Kept.refl G w2).alloc _
  refine ⟨w2.heap.size, xs, w2.heap.size :: G, rfl, ⟨v, G, rfl, heap_alloc_new w2 _, ha.kept kk (fun _ _ h => by cases h), fun h => by have := hlt _ h; omega, fun t ht => ⟨(hr t ht).1.kept kg (fun k hk => ?_), (hr t ht).2⟩⟩, h1, fun k hk => ?_, hnw, hb.alloc hb.size _⟩
  · rcases List.mem_cons.1 hk with rfl | hk
    · exact .inr (Nat.le_refl _)
    · exact .inl hk
  · rcases List.mem_cons.1 hk with rfl | hk
    · exact hb.size
    · exact hG k hk

set_option maxRecDepth 100000 in
set_option maxHeartbeats 1000000 in
theorem part_any (b : Nat) (a : Int) (ts : List TV) (S : List Nat) (g : Nat) (pa ca : Array Value) (p : List V3 → Bool) (w : World) (h : RelAt w b a ts S) (hg : Good a (lists ts))
    (eg : ∀ args w, (callFunc g args).run Try.prog w = .ok (.enter g args) w)
    (hwant : ∀ t W', t ∈ ts → Calm 0 w W' → Calls Try.prog g (pa.push (tval t) ++ ca) W' fun e w' => e = .returned (.bool (p t.2.2)) ∧ Below W'.heap.size W' w') :
    Calls Try.prog 47 #[rp b, .func (.func g) pa ca] w fun e w' => NewPost w a ((lists ts).filter p) e w' := by
  obtain ⟨A, c, ho, hAc, hl, _⟩ := h.open_
  have hnn : ∀ t ∈ ts, (t.1 = none → t.2.1 = 0) ∧ t.2.2.length ≤ 100 := by
    obtain ⟨_, _, _, _, _, _, ht⟩ := h
    intro t h1
    have := right_six (hg.1 _ (List.mem_map_of_mem h1)).1
    exact ⟨(ht t h1).2, by omega⟩
  have h0 := ho.cell0
  have q0 := ho.lt
  have HC := Lib.hid (fun (W : World) (br bw : Nat) (hW : Calm 0 w W) h1 h2 => Collect_any br bw g (rp b) pa ca A c ts p W h1 h2 (fun W' hc => list_at b a _ W' ((hW.trans hc).own ho) A ts.length c rfl) hAc (hl.calm hW) hnn hg.len eg (fun t W' ht hc => hwant t W' ht (hW.trans hc)))
  have HCC := Lib.hid (HC.out ((w.alloc (.cells #[rp b] 24)).alloc (.cells #[.func (.func g) pa ca] 39)).drew w.heap.size (w.heap.size + 1)
    (Calm.of_below 0 (((Below.refl _ w).alloc (Nat.le_refl _) _).alloc (by simp) _).drew)
    (by
      have h1 : Own (w.alloc (.cells #[rp b] 24)) w.heap.size 24 [rp b] := heap_alloc_new w _
      exact (h1.alloc _).cell 0)
    (by
      have h1 : Own ((w.alloc (.cells #[rp b] 24)).alloc (.cells #[.func (.func g) pa ca] 39)) (w.alloc (.cells #[rp b] 24)).heap.size 39 [.func (.func g) pa ca] := heap_alloc_new _ _
      rw [World.size_alloc] at h1
      exact h1.cell 0))
  have HB0 := Lib.hid (show Below w.heap.size w ((w.alloc (.cells #[rp b] 24)).alloc (.cells #[.func (.func g) pa ca] 39)).drew from (((Below.refl _ w).alloc (Nat.le_refl _) _).alloc (by simp) _).drew)
  clear h hg eg hwant hnn hl hAc HC ho
  go_enter Try.func47, Try.ntmps47
  go_wp2_with fail
  go_region_with (first
    | (go_at_call 58; refine (those_any (rp b) g pa ca _ rfl _).mono ?_; rintro e w1 ⟨rfl, rfl⟩)
    | (go_at_call 70; refine HCC.out.mono ?_; rintro e w2 ⟨v, xs, G, rfl, h1, ha, hG, hr, hb⟩; have hb2 := HB0.out.trans (hb.mono HB0.out.size); have h02 := (hb2.cell (p := ⟨b, 0, none⟩) q0).trans h0; have q02 : b < w2.heap.size := Nat.lt_of_lt_of_le q0 hb2.size; obtain ⟨A2, n2, c2, rfl⟩ := ha.val3; have HQ := Lib.hid (rel_made (a := a) hb2 h1 ha (new_le HB0.out.size hG) (two_of hr) (new_of HB0.out.size hr)); clear h1 ha hG hr hb hb2))
  all_goals
    go_wp2
    go_ret
    exact HQ.out

theorem Good.filter {a : Int} {L : List (List V3)} (h : Good a L) (p : List V3 → Bool) : Good a (L.filter p) :=
  ⟨fun l hl => h.1 l ((List.mem_filter.1 hl).1), h.2.1.sublist List.filter_sublist, Nat.le_trans (List.length_filter_le _ _) h.2.2⟩
set_option maxRecDepth 100000 in
set_option maxHeartbeats 400000 in
theorem all_true (t : TV) (w : World) : Calls Try.prog 48 ((#[] : Array Value).push (tval t) ++ #[]) w fun e w' => e = .returned (.bool true) ∧ Below w.heap.size w w' := by
  change Calls Try.prog _ #[tval t] _ _
  go_enter Try.func48, Try.ntmps48
  go_wp2
  go_ret
  exact ⟨rfl, Below.refl _ _⟩
set_option maxRecDepth 100000 in
set_option maxHeartbeats 400000 in
theorem CopyR_any (b : Nat) (a : Int) (ts : List TV) (S : List Nat) (w : World) (h : RelAt w b a ts S) (hg : Good a (lists ts)) :
    Calls Try.prog 19 #[rp b] w fun e w' => NewPost w a (lists ts) e w' := by
  have HP := Lib.hid (part_any b a ts S 48 #[] #[] (fun _ => true) w h hg (enters_of Try.func48 (by kernel_rfl) rfl) (fun t W' _ _ => all_true t W'))
  rw [List.filter_eq_self.2 (fun _ _ => rfl)] at HP
  clear h hg
  go_enter Try.func19, Try.ntmps19
  go_wp2_with fail
  refine HP.out.mono ?_
  rintro e w1 ⟨b', ts', S', rfl, h1⟩
  have HQ := Lib.hid h1
  clear h1
  go_wp2
  go_ret
  exact ⟨b', ts', S', rfl, HQ.out⟩
end Go.Proofs.Ytbahmkhnnahddaa
