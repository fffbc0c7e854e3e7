/- RelWalks' walk. Conditions: texts within the form's reach. -/
import Derived.Test.YtbahmkhnnahddaaRelZ
import Derived.Test.YtbahmkhnnahddaaRelDa
namespace Go.Proofs.Ytbahmkhnnahddaa
open Go.RowKit Go.Deep Go.Shelf
attribute [local go_sem] Oper.semAt_some

set_option maxRecDepth 100000 in
set_option maxHeartbeats 400000 in
theorem All_any (b : Nat) (w : World) :
    Calls Try.prog 37 #[rp b] w fun e w' => e = .returned (.func (.func 75) #[] #[.pointer (some ⟨w.heap.size, 0, none⟩), .pointer (some ⟨w.heap.size + 1, 0, none⟩)]) ∧
      w' = (w.alloc (.cells #[rp b] 24)).alloc (.cells #[.func (.func 61) #[] #[]] 39) := by
  have HT := Lib.hid (those_any (rp b) 61 #[] #[] _ rfl w)
  go_enter Try.func37, Try.ntmps37
  go_wp2_with fail
  refine HT.out.mono ?_
  rintro e w1 ⟨rfl, rfl⟩
  go_wp2
  go_ret
  exact ⟨rfl, rfl⟩
set_option maxRecDepth 100000 in
set_option maxHeartbeats 400000 in
theorem all1_true (t : TV) (w : World) : Calls Try.prog 61 ((#[] : Array Value).push (tval t) ++ #[]) w fun e w' => e = .returned (.bool true) ∧ Below w.heap.size w w' := by
  change Calls Try.prog _ #[tval t] _ _
  go_enter Try.func61, Try.ntmps61
  go_wp2
  go_ret
  exact ⟨rfl, Below.refl _ _⟩
/-- one tuple handed over in a row of its own. -/
theorem lst_one {w : World} {g : Nat} {t : TV} (ho : Own w g 35 [tval t]) (hr : Row w t.1 t.2.2) : Lst [] w (some ⟨g, 0, none⟩) [t] := by
  refine ⟨fun _ => ⟨g, 0, rfl, ho.lt, List.not_mem_nil, fun i x hx => ?_⟩, fun x hx => ?_⟩
  · rw [Nat.zero_add, ho.cell]
    cases i with
    | zero =>
      simp only [List.getElem?_cons_zero, Option.some.injEq] at hx ⊢
      rw [hx]
    | succ i => simp at hx
  · simp only [List.mem_singleton] at hx
    subst hx
    exact hr.off (fun _ h => by cases h)

theorem pos_of {n : Nat} (h : ((n : Int) == 0) = false) : 0 < n := by
  rcases Nat.eq_zero_or_pos n with h0 | h0
  · subst h0
    cases h
  · exact h0
theorem foot_rel {W : World} {b : Nat} {a : Int} {ts : List TV} {S : List Nat} (Z : List Nat) (h : RelAt W b a ts S) : footL Z b 1 W = Z ++ S := by
  obtain ⟨v, G, rfl, ho, ha, _⟩ := h
  exact foot_arr Z ho.cell1 ha
theorem RelAt.cells {W : World} {b : Nat} {a : Int} {ts : List TV} {S : List Nat} (h : RelAt W b a ts S) : ∀ k ∈ S, ∀ o, W.heap[k]? = some o → o.isCells = true := by
  obtain ⟨v, G, rfl, ho, ha, _⟩ := h
  intro k hk o hko
  rcases List.mem_cons.1 hk with rfl | hk
  · unfold Own at ho
    rw [ho] at hko
    cases hko
    rfl
  · rcases ha with ⟨_, _, rfl⟩ | ⟨g', sp, _, rfl, h3, _⟩
    · cases hk
    · simp only [List.mem_singleton] at hk
      subst hk
      unfold Own at h3
      rw [h3] at hko
      cases hko
      rfl
/-- the two relations and the boxes, between two rounds. -/
structure WkI (w : World) (br bc b3 b4 b5 b7 b8 : Nat) (a : Int) (L : List (List V3)) (X : Option Addr) (xc : Nat) (xl : List V3) (ts : List TV) (S : List Nat) (tc : List TV) (Sc : List Nat) (k m : Nat) (W : World) : Prop where
  r : RelAt W br a ts S
  good : Good a (lists ts)
  some : ∀ y ∈ lists ts, y ∈ L.drop k ∨ y = xl
  all : ∀ y ∈ L.drop k, y ∈ lists ts
  c : RelAt W bc a tc Sc
  cl : lists tc = L
  apart : ∀ g ∈ Sc, g ∉ S
  rows : ∀ t ∈ tc, RowO S W t.1 t.2.2
  more : RowO S W X xl
  o3 : Own W b3 35 [.slice X xl.length xc]
  o4 : Own W b4 4 [.bool false]
  o5 : Own W b5 24 [rp br]
  o7 : Own W b7 24 [rp bc]
  o8 : Own W b8 3 [.int .i64 m]
  out : ∀ g ∈ S, (g ≠ b3 ∧ g ≠ b4 ∧ g ≠ b5 ∧ g ≠ b7 ∧ g ≠ b8) ∧ w.heap.size ≤ g
  low : Below w.heap.size w W
section
variable {w : World} {br bc b3 b4 b5 b7 b8 : Nat} {a : Int} {L : List (List V3)} {X : Option Addr} {xc : Nat} {xl : List V3} {ts ts' : List TV} {S S' : List Nat} {tc : List TV} {Sc : List Nat} {k k' m B : Nat} {U V : World}
theorem WkI.calm (h : WkI w br bc b3 b4 b5 b7 b8 a L X xc xl ts S tc Sc k m U) (hc : Calm B U V) (hB : w.heap.size ≤ B) : WkI w br bc b3 b4 b5 b7 b8 a L X xc xl ts S tc Sc k m V :=
  ⟨h.r.calm hc, h.good, h.some, h.all, h.c.calm hc, h.cl, h.apart, fun t ht => (h.rows t ht).calm hc, h.more.calm hc, hc.own h.o3, hc.own h.o4, hc.own h.o5, hc.own h.o7, hc.own h.o8, h.out, Below.calm h.low hc (Nat.le_refl _) hB⟩
theorem WkI.below (h : WkI w br bc b3 b4 b5 b7 b8 a L X xc xl ts S tc Sc k m U) (hb : Below U.heap.size U V) : WkI w br bc b3 b4 b5 b7 b8 a L X xc xl ts S tc Sc k m V :=
  h.calm (B := w.heap.size) (Calm.of_below _ hb) (Nat.le_refl _)
theorem not_mem_of {g : Nat} (hx : ∀ x ∈ S, x ≠ g) : g ∉ S := fun hm => hx _ hm rfl
/-- a call that turns the relation's own blocks. -/
theorem WkI.turn (h : WkI w br bc b3 b4 b5 b7 b8 a L X xc xl ts S tc Sc k m U) (hr : RelAt V br a ts' S') (hg : Good a (lists ts')) (hk : Kept S U V) (hs : Sub S' S U.heap.size) (h1 : ∀ y ∈ lists ts', y ∈ L.drop k' ∨ y = xl) (h2 : ∀ y ∈ L.drop k', y ∈ lists ts') :
    WkI w br bc b3 b4 b5 b7 b8 a L X xc xl ts' S' tc Sc k' m V := by
  have hcs := h.c.sub
  refine ⟨hr, hg, h1, h2, h.c.kept hk h.apart h.rows, h.cl, fun g hg' hm => ?_, fun t ht => (h.rows t ht).kept hk hs, h.more.kept hk hs, hk.own h.o3 (not_mem_of fun x hx => (h.out x hx).1.1), hk.own h.o4 (not_mem_of fun x hx => (h.out x hx).1.2.1),
    hk.own h.o5 (not_mem_of fun x hx => (h.out x hx).1.2.2.1), hk.own h.o7 (not_mem_of fun x hx => (h.out x hx).1.2.2.2.1), hk.own h.o8 (not_mem_of fun x hx => (h.out x hx).1.2.2.2.2), fun g hg' => ?_, ?_⟩
  · rcases hs g hm with h3 | h3
    · exact h.apart g hg' h3
    · have := hcs g hg'
      omega
  · rcases hs g hg' with h3 | h3
    · exact h.out g h3
    · have l3 := h.o3.lt
      have l4 := h.o4.lt
      have l5 := h.o5.lt
      have l7 := h.o7.lt
      have l8 := h.o8.lt
      have := h.low.size
      exact ⟨⟨by omega, by omega, by omega, by omega, by omega⟩, by omega⟩
  · exact h.low.trans (hk.below h.low.size (fun g hg' => (h.out g hg').2))
theorem Own.inj {W : World} {g : Nat} {e e' : TypeId} {us us' : List Value} (h : Own W g e us) (h' : Own W g e' us') : e = e' := by
  unfold Own at h h'
  rw [h] at h'
  injection h' with h'
  injection h' with _ h' _
/-- a number's box is none of a relation's blocks. -/
theorem RelAt.off_box {W : World} {b g : Nat} {us : List Value} (h : RelAt W b a ts S) (ho : Own W g 3 us) : g ∉ S := by
  obtain ⟨v, G, rfl, hb, ha, _⟩ := h
  intro hm
  rcases List.mem_cons.1 hm with rfl | hm
  · have := Own.inj ho hb
    revert this
    decide
  · rcases ha with ⟨_, _, rfl⟩ | ⟨g', sp, _, rfl, h3, _⟩
    · cases hm
    · simp only [List.mem_singleton] at hm
      subst hm
      have := Own.inj ho h3
      revert this
      decide
/-- nor does a row lie in a box of one cell. -/
theorem RowO.off_box {W : World} {g : Nat} {e : TypeId} {u : Value} {A : Option Addr} {l : List V3} (h : RowO S W A l) (ho : Own W g e [u]) : RowO (g :: S) W A l := fun h0 => by
  obtain ⟨b, o, h1, h2, h3, h4⟩ := h h0
  refine ⟨b, o, h1, h2, fun hm => ?_, h4⟩
  rcases List.mem_cons.1 hm with rfl | hm
  · obtain ⟨_, c2, _⟩ := h4 0 _ (List.getElem?_eq_getElem h0)
    rw [ho.cell] at c2
    rw [List.getElem?_eq_none (by simp)] at c2
    cases c2
  · exact h3 hm
theorem WkI.bump (h : WkI w br bc b3 b4 b5 b7 b8 a L X xc xl ts S tc Sc k m U) (hne : (b8 ≠ b3 ∧ b8 ≠ b4 ∧ b8 ≠ b5 ∧ b8 ≠ b7) ∧ w.heap.size ≤ b8) (m' : Nat) : WkI w br bc b3 b4 b5 b7 b8 a L X xc xl ts S tc Sc k m' (U.setCell ⟨b8, 0, none⟩ (.int .i64 m')) := by
  have kb : Kept [b8] U (U.setCell ⟨b8, 0, none⟩ (.int .i64 m')) := (Kept.refl [b8] U).setCell (.inl (by simp)) _
  have one : ∀ {A : Option Addr} {l : List V3} {T : List Nat}, RowO T U A l → RowO T (U.setCell ⟨b8, 0, none⟩ (.int .i64 m')) A l := fun hr => by
    have h1 := hr.off_box h.o8
    exact (h1.kept (kb.more (S' := b8 :: _) (fun k hk => by simp only [List.mem_singleton] at hk; simp [hk])) (Sub.refl _ _)).fewer (fun k hk => .inl (List.mem_cons_of_mem _ hk))
  have off : ∀ {b : Nat} {us : List TV} {T : List Nat}, RelAt U b a us T → RelAt (U.setCell ⟨b8, 0, none⟩ (.int .i64 m')) b a us T := fun hr => by
    have hn := hr.off_box h.o8
    refine hr.kept kb (fun g hg hm => hn (by simp only [List.mem_singleton] at hm; rw [← hm]; exact hg)) (fun t ht => ?_)
    exact ((hr.rows t ht).off_box h.o8).fewer (fun k hk => .inl (by simp only [List.mem_singleton] at hk; simp [hk]))
  have nb : ∀ {g : Nat}, b8 ≠ g → g ∉ [b8] := fun hx hm => by simp only [List.mem_singleton] at hm; exact hx hm.symm
  exact ⟨off h.r, h.good, h.some, h.all, off h.c, h.cl, h.apart, fun t ht => one (h.rows t ht), one h.more, kb.own h.o3 (nb hne.1.1), kb.own h.o4 (nb hne.1.2.1), kb.own h.o5 (nb hne.1.2.2.1), kb.own h.o7 (nb hne.1.2.2.2), h.o8.set 0 _, h.out,
    h.low.setCell (p := ⟨b8, 0, none⟩) hne.2 _⟩
end
theorem drop_next {L : List (List V3)} {pre : List TV} {x : TV} (h : lists (pre ++ [x]) <+: L) : L.drop pre.length = x.2.2 :: L.drop (pre.length + 1) := by
  obtain ⟨r, rfl⟩ := h
  simp only [lists, List.map_append, List.map_cons, List.map_nil, List.append_assoc, List.singleton_append]
  have e : (pre.map fun x : TV => x.2.2).length = pre.length := by simp
  rw [← e, List.drop_left, ← List.drop_drop, List.drop_left]
  rfl
theorem del_mem {L : List (List V3)} {x y : List V3} : y ∈ delT L x ↔ y ∈ L ∧ y ≠ x := by
  unfold delT
  rw [List.mem_filter]
  constructor
  · rintro ⟨h, h2⟩
    refine ⟨h, fun e => ?_⟩
    subst e
    simp [cmpT_self] at h2
  · rintro ⟨h, h2⟩
    refine ⟨h, ?_⟩
    have : cmpT y x ≠ 0 := fun h0 => h2 (cmpT_eq h0)
    simpa using this
theorem del_del (L : List (List V3)) (x : List V3) : delT (delT L x) x = delT L x := del_not (fnd_not.2 fun h => (del_mem.1 h).2 rfl)
theorem add_mem {a : Int} {L : List (List V3)} {x y : List V3} (h : y ∈ addL a L x) : y ∈ L ∨ y = x := by
  unfold addL at h
  split at h
  · rcases insT_mem.1 h with h | h
    · exact .inr h
    · exact .inl h
  · exact .inl h
theorem mem_add {a : Int} {L : List (List V3)} {x y : List V3} (h : y ∈ L) : y ∈ addL a L x := by
  unfold addL
  split
  · exact insT_mem.2 (.inr h)
  · exact h
theorem sor_next {L : List (List V3)} {k : Nat} {x : List V3} (hs : Sor L) (h : L.drop k = x :: L.drop (k + 1)) : ∀ y ∈ L.drop (k + 1), y ≠ x := by
  have h1 : Sor (L.drop k) := hs.sublist (List.drop_sublist _ _)
  rw [h] at h1
  intro y hy e
  have := (List.pairwise_cons.1 h1).1 y hy
  rw [e, cmpT_self] at this
  omega
theorem sor_one {L : List (List V3)} {x : List V3} (hs : Sor L) (h : ∀ y ∈ L, y = x) : L.length ≤ 1 := by
  match L, hs, h with
  | [], _, _ => simp
  | [a], _, _ => simp
  | a :: b :: r, hs, h =>
    have h1 := (List.pairwise_cons.1 hs).1 b (by simp)
    rw [h a (by simp), h b (by simp), cmpT_self] at h1
    omega

set_option maxRecDepth 100000 in
set_option maxHeartbeats 2000000 in
theorem walks_walk (A : Option Addr) (c : Nat) (xs : List TV) (X : Option Addr) (xc : Nat) (xl : List V3) (w : World) (hx : InL w A xs) (hn : X = none → xc = 0) (hl : xl.length ≤ maxLen) (hr : Row w X xl) (hi : Inb xl) :
    Calls Try.prog 7 #[.slice A xs.length c, .slice X xl.length xc] w fun e w' => e = .returned (.bool true) ∧ Below w.heap.size w w' := by
  refine (callsIn_wide (n := 9)).1 ?_
  have hF7 : Fence.wide.fn 7 := trivial
  have n8 : Fence.wide.fn 8 := trivial
  have n21 : Fence.wide.fn 21 := trivial
  have n11 : Fence.wide.fn 11 := trivial
  have n22 : Fence.wide.fn 22 := trivial
  have n19 : Fence.wide.fn 19 := trivial
  have n36 : Fence.wide.fn 36 := trivial
  have n37 : Fence.wide.fn 37 := trivial
  have n18 : Fence.wide.fn 18 := trivial
  have n12 : Fence.wide.fn 12 := trivial
  have n15 : Fence.wide.fn 15 := trivial
  have n75 : Fence.wide.fn 75 := trivial
  have hB0 : Below w.heap.size w ((w.alloc (.cells #[.slice X xl.length xc] 35)).alloc (.cells #[.bool false] 4)) := ((Below.refl _ w).alloc (Nat.le_refl _) _).alloc (by simp) _
  have hO3 : Own ((w.alloc (.cells #[.slice X xl.length xc] 35)).alloc (.cells #[.bool false] 4)) w.heap.size 35 [.slice X xl.length xc] := by
    have h1 : Own (w.alloc (.cells #[.slice X xl.length xc] 35)) w.heap.size 35 [.slice X xl.length xc] := heap_alloc_new w _
    exact h1.alloc _
  have hO4 : Own ((w.alloc (.cells #[.slice X xl.length xc] 35)).alloc (.cells #[.bool false] 4)) (w.heap.size + 1) 4 [.bool false] := by
    have h1 := heap_alloc_new (w.alloc (.cells #[.slice X xl.length xc] 35)) (.cells #[.bool false] 4)
    rw [World.size_alloc] at h1
    exact h1
  obtain ⟨w0, hw0⟩ : ∃ w0, w0 = (w.alloc (.cells #[.slice X xl.length xc] 35)).alloc (.cells #[.bool false] 4) := ⟨_, rfl⟩
  rw [← hw0] at hB0 hO3 hO4
  have HX := Lib.hid hx
  have HR := Lib.hid hr
  have HI := Lib.hid hi
  have B0 := Lib.hid hB0
  have O3 := Lib.hid hO3
  have O4 := Lib.hid hO4
  have HW := Lib.hid hw0
  have HXN := Lib.hid hn
  have hlen := hx.len
  unfold maxLen at hlen
  clear hx hr hi hB0 hO3 hO4 hw0 hn
  refine callsIn_of_wp_marks Try.func7 rfl hF7 ?_ rfl
  simp only [Try.ntmps7, List.size_toArray, List.length_cons, List.length_nil, Nat.reduceAdd, Nat.reduceSub, Array.replicate_succ, Array.replicate_zero, List.push_toArray, List.append_toArray, List.nil_append, List.cons_append]
  gi_wp2_with fail
  rw [← HW.out]
  refine (callsIn_wide.2 (alive_any _)).mono ?_
  rintro e w1 ⟨rfl, b1⟩
  have B1 := Lib.hid (B0.out.trans (b1.mono B0.out.size))
  have O3 := Lib.hid (O3.out.below b1)
  have O4 := Lib.hid (O4.out.below b1)
  clear b1 B0
  gi_wp2_with fail
  refine (callsIn_wide.2 (Large_any A c xs w1 (HX.out.lst.below B1.out) HX.out.inb HX.out.len)).mono ?_
  rintro e w2 ⟨r, rfl, hr, b2⟩
  have B2 := Lib.hid (B1.out.trans (b2.mono B1.out.size))
  have O3 := Lib.hid (O3.out.below b2)
  have O4 := Lib.hid (O4.out.below b2)
  have HLg := Lib.hid hr
  clear b2 B1 hr
  have h40 := O4.out.cell 0
  have f40 := O4.out.frozen 0
  have q40 := O4.out.lt
  have h30 := O3.out.cell 0
  have q30 := O3.out.lt
  cases r with
  | true =>
    gi_wp2
    exact ⟨.bool true, (by simp [results, Try.results7, go_sem, (O4.out.set 0 (.bool true)).cell 0]), rfl, B2.out.setCell (p := ⟨w.heap.size + 1, 0, none⟩) (by simp) _⟩
  | false =>
    by_cases h00 : ((xs.length : Int) == 0) = true
    · gi_wp2
      exact ⟨.bool true, (by simp [results, Try.results7, go_sem, (O4.out.set 0 (.bool true)).cell 0]), rfl, B2.out.setCell (p := ⟨w.heap.size + 1, 0, none⟩) (by simp) _⟩
    · have h00 : ((xs.length : Int) == 0) = false := by simpa using h00
      have h0n : 0 < xs.length := pos_of h00
      have hV : Own (w2.alloc (.cells #[.slice X xl.length xc] 35)) w2.heap.size 35 [tval (X, xc, xl)] := heap_alloc_new w2 _
      have hb3 : Below w2.heap.size w2 (w2.alloc (.cells #[.slice X xl.length xc] 35)) := (Below.refl _ _).alloc (Nat.le_refl _) _
      have HLo := Lib.hid (Long_lst (some ⟨w2.heap.size, 0, none⟩) 1 [(X, xc, xl)] (by simp) _ (lst_one hV ((HR.out.below B2.out).below hb3)) (fun t ht => by simp only [List.mem_singleton] at ht; subst ht; exact ⟨HI.out, hl⟩))
      have B3 := Lib.hid hb3
      clear hV hb3
      gi_wp2_with fail
      refine (callsIn_wide.2 HLo.out).mono ?_
      rintro e w3 ⟨r, rfl, hr, b3⟩
      have b3 := (B3.out.trans (b3.mono B3.out.size))
      have O3 := Lib.hid (O3.out.below b3)
      have O4 := Lib.hid (O4.out.below b3)
      have B3 := Lib.hid (B2.out.trans (b3.mono B2.out.size))
      have HLm := Lib.hid hr
      clear b3 hr HLo B2 h40 f40 q40 h30 q30
      have h40 := O4.out.cell 0
      have f40 := O4.out.frozen 0
      have q40 := O4.out.lt
      have h30 := O3.out.cell 0
      have q30 := O3.out.lt
      cases r with
      | true =>
        gi_wp2
        exact ⟨.bool true, (by simp [results, Try.results7, go_sem, (O4.out.set 0 (.bool true)).cell 0]), rfl, B3.out.setCell (p := ⟨w.heap.size + 1, 0, none⟩) (by simp) _⟩
      | false =>
        have hS := HLg.out (by simp)
        have hSm := HLm.out (by simp) (X, xc, xl) (by simp)
        have HLst := Lib.hid (HX.out.lst.below B3.out)
        obtain ⟨g0, o0, rfl, hg0, _, hc0, _⟩ := HLst.out.at_ h0n
        obtain ⟨t0, ht0⟩ : ∃ t0, xs[0] = t0 := ⟨_, rfl⟩
        rw [ht0] at hc0
        obtain ⟨T0, tc0, tl0⟩ := t0
        have hc0 : w3.cell? ⟨g0, o0, none⟩ = some (.slice T0 tl0.length tc0) := hc0
        have HO := Lib.hid (Of_any (tl0.length : Int) (some ⟨g0, o0, none⟩) c xs w3 HLst.out (HX.out.tok hS.2) HX.out.len)
        have HTm := Lib.hid (show Tok (X, xc, xl) from ⟨HXN.out, hSm.1, hSm.2.fit⟩)
        have HLx : Hid ((ofL (tl0.length : Int) (lists xs)).length ≤ 60) := Nat.le_trans (allL_len (a := (tl0.length : Int)) (lists xs) (L := [])) (by have := hS.1; simpa using this)
        have HGx := Lib.hid (ofL_good (tl0.length : Int) (lists xs))
        generalize ofL (tl0.length : Int) (lists xs) = L at HO HLx HGx
        generalize ofE (tl0.length : Int) (lists xs) = n at HO
        clear hS hSm HLg HLm ht0 HLst
        gi_wp2_with fail
        refine (callsIn_wide.2 HO.out).mono ?_
        rintro e w4 (⟨h0, br, rfl, ts, S, hr, hl4, hS4, hb4⟩ | ⟨h0, rfl, hb4⟩)
        · have O3 := Lib.hid (O3.out.below hb4)
          have O4 := Lib.hid (O4.out.below hb4)
          have B4 := Lib.hid (B3.out.trans (hb4.mono B3.out.size))
          have HRr := Lib.hid hr
          have HRl := Lib.hid hl4
          have HRs := Lib.hid hS4
          have H34 : Hid (w.heap.size + 1 < w3.heap.size) := q40
          have H3w := Lib.hid B3.out.size
          have H34s := Lib.hid hb4.size
          clear hr hl4 hS4 hb4 h0 HO h40 f40 q40 h30 q30 hc0 hg0 B3
          have k1 := neq_nil
          have hO5 : Own (w4.alloc (.cells #[rp br] 24)) w4.heap.size 24 [rp br] := heap_alloc_new w4 _
          have hb5 : Below w4.heap.size w4 (w4.alloc (.cells #[rp br] 24)) := (Below.refl _ _).alloc (Nat.le_refl _) _
          have hs5 : (w4.alloc (.cells #[rp br] 24)).heap.size = w4.heap.size + 1 := by simp
          obtain ⟨w5, hw5⟩ : ∃ w5, w5 = w4.alloc (.cells #[rp br] 24) := ⟨_, rfl⟩
          rw [← hw5] at hO5 hb5 hs5
          have O3 := Lib.hid (O3.out.below hb5)
          have O4 := Lib.hid (O4.out.below hb5)
          have O5 := Lib.hid hO5
          have HS5 := Lib.hid hs5
          have B5 := Lib.hid (B4.out.trans (hb5.mono B4.out.size))
          have HSlt := Lib.hid HRr.out.sub
          have HRr := Lib.hid (HRr.out.below hb5)
          have HG : Hid (Good (tl0.length : Int) (lists ts)) := by show Good _ (lists ts); rw [HRl.out]; exact HGx.out
          have HW5 := Lib.hid hw5
          have HC := Lib.hid (CopyR_any br (tl0.length : Int) ts S w5 HRr.out HG.out)
          rw [HRl.out] at HC
          clear hO5 hb5 hs5 hw5
          gi_wp2_with fail
          rw [← HW5.out]
          refine (callsIn_wide.2 HC.out).mono ?_
          rintro e w6 ⟨bc, tc, Sc, rfl, hrc, hlc, hsc, hnc, hb6⟩
          have hb67 : Below w6.heap.size w6 (w6.alloc (.cells #[rp bc] 24)) := (Below.refl _ _).alloc (Nat.le_refl _) _
          have hO7 : Own (w6.alloc (.cells #[rp bc] 24)) w6.heap.size 24 [rp bc] := heap_alloc_new w6 _
          have hs7 : (w6.alloc (.cells #[rp bc] 24)).heap.size = w6.heap.size + 1 := by simp
          obtain ⟨w7, hw7⟩ : ∃ w7, w7 = w6.alloc (.cells #[rp bc] 24) := ⟨_, rfl⟩
          rw [← hw7] at hb67 hO7 hs7
          have hb7 : Below w5.heap.size w5 w7 := hb6.trans (hb67.mono hb6.size)
          have O56 := O5.out.below hb6
          have h50 := O56.cell 0
          have q50 := O56.lt
          clear O56
          have O3 := Lib.hid (O3.out.below hb7)
          have O4 := Lib.hid (O4.out.below hb7)
          have O5 := Lib.hid (O5.out.below hb7)
          have O7 := Lib.hid hO7
          have HS7 := Lib.hid hs7
          have H56 := Lib.hid hb6.size
          have HRr := Lib.hid (HRr.out.below hb7)
          have HRc := Lib.hid (hrc.below hb67)
          have HRcl := Lib.hid hlc
          have HSc := Lib.hid hsc
          have HNc := Lib.hid hnc
          have B7 := Lib.hid (B5.out.trans (hb7.mono B5.out.size))
          have HW7 := Lib.hid hw7
          have HLen := Lib.hid (Len_any br (tl0.length : Int) ts S w7 HRr.out)
          have hlen2 : ts.length ≤ 2000 := HG.out.len
          clear hrc hlc hsc hnc hb6 hb67 hO7 hs7 hw7 hb7 HC B5
          gi_wp2_with fail
          rw [← HW7.out]
          refine (callsIn_wide.2 HLen.out).mono ?_
          rintro e w7' ⟨rfl, rfl⟩
          have hb8 : Below w7.heap.size w7 (w7.alloc (.cells #[.int .i64 0] 3)) := (Below.refl _ _).alloc (Nat.le_refl _) _
          have hO8 : Own (w7.alloc (.cells #[.int .i64 0] 3)) w7.heap.size 3 [.int .i64 0] := heap_alloc_new w7 _
          obtain ⟨w8, hw8⟩ : ∃ w8, w8 = w7.alloc (.cells #[.int .i64 0] 3) := ⟨_, rfl⟩
          rw [← hw8] at hb8 hO8
          have hI8 : WkI w br bc w.heap.size (w.heap.size + 1) w4.heap.size w6.heap.size w7.heap.size (tl0.length : Int) L X xc xl ts S tc Sc 0 0 w8 := by
            have hge : ∀ g ∈ Sc, w4.heap.size < g := fun g hg => by have := HSc.out g hg; have := HS5.out; omega
            have hlow := B4.out.size
            refine ⟨HRr.out.below hb8, HG.out, fun y hy => .inl (by rw [List.drop_zero, ← HRl.out]; exact hy), fun y hy => by rw [List.drop_zero, ← HRl.out] at hy; exact hy, HRc.out.below hb8, HRcl.out, fun g hg hm => ?_, fun t ht h0 => ?_, ?_, O3.out.below hb8, O4.out.below hb8, O5.out.below hb8, O7.out.below hb8, hO8, fun g hg => ?_, B7.out.trans (hb8.mono B7.out.size)⟩
            · have := hge g hg
              have := HSlt.out g hm
              omega
            · obtain ⟨g, o, e1, e2, _, e4⟩ := ((HRc.out.below hb8).rows t ht) h0
              refine ⟨g, o, e1, e2, fun hm => ?_, e4⟩
              have h5 := HNc.out t ht g o e1
              have := HSlt.out g hm
              have := HS5.out
              omega
            · exact (HR.out.off (S := S) (fun g hg => Nat.le_trans H3w.out (HRs.out g hg))).kept (Kept.of S (B7.out.trans (hb8.mono B7.out.size))) (Sub.refl _ _)
            · have h1 := HRs.out g hg
              have h2 := HSlt.out g hg
              have h3 := H34.out
              have h4 := H3w.out
              have h6 := H56.out
              have h7 := HS5.out
              have h8 := HS7.out
              exact ⟨⟨by omega, by omega, by omega, by omega, by omega⟩, by omega⟩
          have HI8 := Lib.hid hI8
          have HW8 := Lib.hid hw8
          have H8s : Hid (w8.heap.size = w7.heap.size + 1) := by show _ = _; rw [hw8]; simp
          have HR7 : Hid (∀ t ∈ ts, RowO (w7.heap.size :: S) w8 t.1 t.2.2) := fun t ht => (HRr.out.rows t ht).kept (Kept.of S hb8) (fun k hk => by
            rcases List.mem_cons.1 hk with rfl | hk
            · exact .inr (Nat.le_refl _)
            · exact .inl hk)
          have HS7lt : Hid (∀ k ∈ S, k < w7.heap.size) := HRr.out.sub
          have HBox : Hid ((w7.heap.size ≠ w.heap.size ∧ w7.heap.size ≠ w.heap.size + 1 ∧ w7.heap.size ≠ w4.heap.size ∧ w7.heap.size ≠ w6.heap.size) ∧ w.heap.size ≤ w7.heap.size) := by
            have l3 := O3.out.lt
            have l4 := O4.out.lt
            have l5 := O5.out.lt
            have l7 := O7.out.lt
            exact ⟨⟨by omega, by omega, by omega, by omega⟩, by omega⟩
          have h57 := O5.out.cell 0
          have q57 := O5.out.lt
          clear hI8 hw8 hb8 hO8 h50 q50 HLen O3 O4 O5 O7 B7 HW7 HRc HRcl HSc HNc HSlt HRs H34 H3w H34s H56 HS5 HS7 B4 HW5 HW
          gi_wp2_with fail
          rw [← HW8.out]
          refine (callsIn_wide.2 (All_any br w8)).mono ?_
          rintro e w9 ⟨rfl, hw9⟩
          have hb9 : Below w8.heap.size w8 w9 := by rw [hw9]; exact ((Below.refl _ _).alloc (Nat.le_refl _) _).alloc (by simp) _
          have hb1 : w9.cell? ⟨w8.heap.size, 0, none⟩ = some (rp br) := by
            have h1 : Own (w8.alloc (.cells #[rp br] 24)) w8.heap.size 24 [rp br] := heap_alloc_new w8 _
            rw [hw9]
            exact (h1.alloc _).cell 0
          have hb2 : w9.cell? ⟨w8.heap.size + 1, 0, none⟩ = some (.func (.func 61) #[] #[]) := by
            have h1 : Own ((w8.alloc (.cells #[rp br] 24)).alloc (.cells #[.func (.func 61) #[] #[]] 39)) (w8.alloc (.cells #[rp br] 24)).heap.size 39 [.func (.func 61) #[] #[]] := heap_alloc_new _ _
            rw [World.size_alloc] at h1
            rw [hw9]
            exact h1.cell 0
          have hs9 : w9.heap.size = w8.heap.size + 2 := by rw [hw9]; simp
          have HI9 := Lib.hid (HI8.out.below hb9)
          have HR9 : Hid (∀ t ∈ ts, RowO (w7.heap.size :: S) w9 t.1 t.2.2) := fun t ht => (HR7.out t ht).below hb9
          have HB1 := Lib.hid hb1
          have HB2 := Lib.hid hb2
          have HS9 := Lib.hid hs9
          have hbrS : br ∈ S := by
            obtain ⟨_, _, h1, _⟩ := HRr.out
            rw [h1]
            exact List.mem_cons_self ..
          have HbrS := Lib.hid hbrS
          have hlow9 : w.heap.size ≤ w9.heap.size := HI9.out.low.size
          have hLlen : L.length ≤ 2000 := Nat.le_trans HLx.out (by omega)
          clear hw9 hb9 hb1 hb2 hs9 hbrS HI8 HR7 h57 q57
          gi_wp2_with fail
          have hflt : (lists ts).filter (fun _ => true) = L := by rw [List.filter_eq_self.2 (fun _ _ => rfl)]; exact HRl.out
          have HFl := Lib.hid hflt
          clear hflt
          refine' range_law (Kp := Kf [w7.heap.size] br 1) (Px := Yd [w7.heap.size] br 1 0 L) (S := fun us => lists us = L) (Sp := fun pre => lists pre <+: L) (encs := fun x : TV => #[tval x]) rfl (by omega) (gf := 75) (lb := #[.pointer (some ⟨w8.heap.size, 0, none⟩), .pointer (some ⟨w8.heap.size + 1, 0, none⟩)]) rfl n75 (enters_of Try.func75 (by kernel_rfl) rfl)
            ?seq (fun h h' => h.trans h') (fun U V hU hc => Kf.of_calm hc (by have := HS7lt.out br HbrS.out; have := HS9.out; have := H8s.out; omega) (by have := HS7lt.out br HbrS.out; have := HS9.out; have := H8s.out; omega)) (fun _ => rfl)
            (fun pre W => ∃ ts1 S1 tc1 Sc1, WkI w br bc w.heap.size (w.heap.size + 1) w4.heap.size w6.heap.size w7.heap.size (tl0.length : Int) L X xc xl ts1 S1 tc1 Sc1 pre.length pre.length W) (fun _ _ _ => False) (fun pre U V h hc => ?calm) (fun _ _ _ _ h _ => h)
            (fun pre x U V h hc => ?px) ?i0 _ ?assign ?body ?done ?stop
          case assign =>
            intro l x W K hK
            gi_wp2
            exact hK
          case calm =>
            obtain ⟨ts1, S1, tc1, Sc1, h1⟩ := h
            exact ⟨ts1, S1, tc1, Sc1, h1.calm hc hlow9⟩
          case px =>
            obtain ⟨h1, h2, h3, h4, h5⟩ := h
            refine ⟨h1, ?_, h3, Nat.lt_of_lt_of_le h4 hc.size, h5⟩
            rw [foot_same (calm_cell hc h4 (by have := HS7lt.out br HbrS.out; have := HS9.out; have := H8s.out; omega))]
            exact h2.calm hc
          case i0 => exact ⟨ts, S, tc, Sc, HI9.out⟩
          case seq =>
            intro l J Jx W hW hJ hJx hY h0
            have hIW := HI9.out.below hW
            obtain ⟨A1, c1, ho1, hA1, hl1, _⟩ := hIW.r.open_
            have hfW : footL [w7.heap.size] br 1 W = [w7.heap.size] ++ S := foot_rel _ hIW.r
            have h7 : w7.heap.size < W.heap.size := hIW.o8.lt
            have hb : br < W.heap.size := hIW.r.sub br HbrS.out
            have hth := those_in 8 (by omega) l [w7.heap.size] br 1 0 w8.heap.size (w8.heap.size + 1) 61 (rp br) #[] #[] A1 c1 ts (fun _ => true) J Jx W (Nat.zero_le _) hb ((Calm.of_below 0 hW).cell HB1.out) ((Calm.of_below 0 hW).cell HB2.out) (by
                rw [hfW]
                intro hm
                have h8 := H8s.out
                rcases List.mem_append.1 hm with hm | hm
                · simp only [List.mem_singleton] at hm
                  omega
                · have := HS7lt.out _ hm
                  omega)
              (fun W' hb' => list_at br _ _ W' ((Calm.of_below 0 hb').own ho1) A1 ts.length c1 rfl) hA1 hl1 (fun t ht => ⟨by rw [hfW]; exact (HR9.out t ht).below hW, by
                obtain ⟨_, _, _, _, _, _, hh⟩ := hIW.r
                exact (hh t ht).2, by
                have := right_six (HG.out.1 _ (List.mem_map_of_mem ht)).1
                omega⟩) HG.out.len (fun k hk => by
                rw [hfW] at hk
                rcases List.mem_append.1 hk with hk | hk
                · simp only [List.mem_singleton] at hk
                  omega
                · exact hIW.r.sub k hk) (enters_of Try.func61 (by kernel_rfl) rfl) (fun t W' _ _ _ => all1_true t W') hJ hJx (by rw [HFl.out]; exact hY) h0
            rw [HFl.out] at hth
            exact hth
          case body =>
            rintro l pre ⟨T, tq, tl⟩ W ⟨ts1, S1, tc1, Sc1, hI⟩ ⟨hpre, hx, hxn, _, _⟩
            have hdrop := drop_next hpre
            simp only at hdrop hx hxn
            have hk : pre.length < L.length := by
              have := hpre.length_le
              simp only [List.length_map, List.length_append, List.length_singleton] at this
              omega
            have htl : tl ∈ L := by
              have : tl ∈ L.drop pre.length := by rw [hdrop]; exact List.mem_cons_self ..
              exact List.mem_of_mem_drop this
            have hxl : tl.length ≤ maxLen := right_fit (HGx.out.1 tl htl).1
            have hfW : footL [w7.heap.size] br 1 W = [w7.heap.size] ++ S1 := foot_rel _ hI.r
            rw [hfW] at hx
            have hx1 : RowO S1 W T tl := hx.fewer (fun k hk => .inl (by simp [hk]))
            have HI0 := Lib.hid hI
            have HX1 := Lib.hid hx1
            have HGc : Hid (Good (tl0.length : Int) (lists tc1)) := by show Good _ (lists tc1); rw [hI.cl]; exact HGx.out
            have HHas := Lib.hid (Has_any bc _ tc1 Sc1 (T, tq, tl) W hI.c HGc.out hx1.row hxl)
            rw [hI.cl, show fndT L tl = true from fnd_iff.2 htl] at HHas
            have HDr := Lib.hid (fun V (hb : Below W.heap.size W V) => Drop_any br _ ts1 S1 (T, tq, tl) V (hI.r.below hb) hI.good (hx1.row.below hb) hxl)
            have hf1 : fndT (lists ts1) tl = true := fnd_iff.2 (hI.all tl (by rw [hdrop]; exact List.mem_cons_self ..))
            simp only [DropPost, hf1] at HDr
            have hsn := sor_next HGx.out.2.1 hdrop
            have HSn := Lib.hid hsn
            have HDd := Lib.hid hdrop
            have HFW := Lib.hid hfW
            have h50 := hI.o5.cell 0
            have q50 := hI.o5.lt
            have h70 := hI.o7.cell 0
            have q70 := hI.o7.lt
            clear hI hx hx1 hfW hf1 hsn hdrop hpre htl
            gi_wp2_with fail
            refine (CallsIn.inRound l (callsIn_wide.2 HHas.out)).mono ?_
            rintro e u1 ⟨rfl, b1⟩
            have B1 := Lib.hid b1
            have HI1 := Lib.hid (HI0.out.below b1)
            clear b1 h50 q50 h70 q70
            have h50 := HI1.out.o5.cell 0
            have q50 := HI1.out.o5.lt
            gi_wp2_with fail
            refine (CallsIn.inRound l (callsIn_wide.2 (HDr.out u1 B1.out))).mono ?_
            rintro e u2 ⟨ts2, S2, rfl, hr2, hl2, hk2, hs2⟩
            try simp only at hl2
            have hg2 : Good (tl0.length : Int) (lists ts2) := by rw [hl2]; exact HI0.out.good.del tl
            have hI2 := HI1.out.turn (k' := pre.length + 1) hr2 hg2 hk2 hs2 (fun y hy => by
                rw [hl2] at hy
                obtain ⟨h1, h2⟩ := del_mem.1 hy
                rcases HI0.out.some y h1 with h3 | h3
                · rw [HDd.out] at h3
                  rcases List.mem_cons.1 h3 with h4 | h4
                  · exact absurd h4 h2
                  · exact .inl h4
                · exact .inr h3) (fun y hy => by
                rw [hl2]
                exact del_mem.2 ⟨HI0.out.all y (by rw [HDd.out]; exact List.mem_cons_of_mem _ hy), HSn.out y hy⟩)
            have HK2 := Lib.hid ((Kept.of S1 B1.out).trans hk2 (Sub.refl _ _))
            have HS2 := Lib.hid ((Sub.refl S1 W.heap.size).trans hs2 B1.out.size)
            have HX2 := Lib.hid (HX1.out.kept HK2.out HS2.out)
            have HDr2 := Lib.hid (Drop_any br _ ts2 S2 (T, tq, tl) u2 hr2 hg2 HX2.out.row hxl)
            have hf2 : fndT (lists ts2) tl = false := by rw [hl2]; exact fnd_not.2 fun h => (del_mem.1 h).2 rfl
            simp only [DropPost, hf2] at HDr2
            have HI2 := Lib.hid hI2
            have HL2 := Lib.hid hl2
            clear hr2 hk2 hs2 hg2 hI2 hl2 hf2 HDr h50 q50
            have h50 := HI2.out.o5.cell 0
            have q50 := HI2.out.o5.lt
            gi_wp2_with fail
            refine (CallsIn.inRound l (callsIn_wide.2 HDr2.out)).mono ?_
            rintro e u3 ⟨ts3, S3, rfl, hr3, hl3, hk3, hs3⟩
            try simp only at hl3
            have hl3 : lists ts3 = lists ts2 := by rw [hl3, HL2.out, del_del]
            have hg3 : Good (tl0.length : Int) (lists ts3) := by rw [hl3]; exact HI2.out.good
            have hI3 := HI2.out.turn (k' := pre.length + 1) hr3 hg3 hk3 hs3 (fun y hy => HI2.out.some y (by rw [← hl3]; exact hy)) (fun y hy => by rw [hl3]; exact HI2.out.all y hy)
            have HK3 := Lib.hid (HK2.out.trans hk3 HS2.out)
            have HS3 := Lib.hid (HS2.out.trans hs3 HK2.out.size)
            have HAd := Lib.hid (Add_any br _ ts3 S3 (X, xc, xl) u3 hr3 hg3 hI3.more.row HTm.out)
            have HI3 := Lib.hid hI3
            clear hr3 hk3 hs3 hg3 hI3 hl3 HDr2 h50 q50
            have h50 := HI3.out.o5.cell 0
            have q50 := HI3.out.o5.lt
            have h30 := HI3.out.o3.cell 0
            have q30 := HI3.out.o3.lt
            gi_wp2_with fail
            refine (CallsIn.inRound l (callsIn_wide.2 HAd.out)).mono ?_
            rintro e u4 ⟨ts4, S4, rfl, hr4, hl4, hk4, hs4⟩
            try simp only at hl4
            have hg4 : Good (tl0.length : Int) (lists ts4) := by rw [hl4]; exact HI3.out.good.add xl
            have hI4 := HI3.out.turn (k' := pre.length + 1) hr4 hg4 hk4 hs4 (fun y hy => by
                rw [hl4] at hy
                rcases add_mem hy with h1 | h1
                · exact HI3.out.some y h1
                · exact .inr h1) (fun y hy => by rw [hl4]; exact mem_add (HI3.out.all y hy))
            have HK4 := Lib.hid (HK3.out.trans hk4 HS3.out)
            have HS4 := Lib.hid (HS3.out.trans hs4 HK3.out.size)
            have HI4 := Lib.hid hI4
            clear hr4 hk4 hs4 hg4 hI4 hl4 HAd h50 q50 h30 q30
            generalize addB (tl0.length : Int) (lists ts3) xl = rb
            generalize errV (addE (tl0.length : Int) (lists ts3) xl) = re
            have h80 := HI4.out.o8.cell 0
            have q80 := HI4.out.o8.lt
            have f80 := HI4.out.o8.frozen 0
            have hkb : pre.length ≤ 2000 := by omega
            have HQ : Hid (KeepsFrom w9.heap.size W (u4.setCell ⟨w7.heap.size, 0, none⟩ (.int .i64 ((pre.length : Int) + 1))) ∧ Kf [w7.heap.size] br 1 W (u4.setCell ⟨w7.heap.size, 0, none⟩ (.int .i64 ((pre.length : Int) + 1))) ∧
                ∃ ts1 S1 tc1 Sc1, WkI w br bc w.heap.size (w.heap.size + 1) w4.heap.size w6.heap.size w7.heap.size (tl0.length : Int) L X xc xl ts1 S1 tc1 Sc1 (pre ++ [((T, tq, tl) : TV)]).length (pre ++ [((T, tq, tl) : TV)]).length (u4.setCell ⟨w7.heap.size, 0, none⟩ (.int .i64 ((pre.length : Int) + 1)))) := by
              have hI5 := HI4.out.bump HBox.out (pre.length + 1)
              have e1 : (((pre.length + 1 : Nat)) : Int) = (pre.length : Int) + 1 := by omega
              rw [e1] at hI5
              have kall : Kept ([w7.heap.size] ++ S1) W (u4.setCell ⟨w7.heap.size, 0, none⟩ (.int .i64 ((pre.length : Int) + 1))) := (HK4.out.more (fun k hk => by simp [hk])).setCell (.inl (by simp)) _
              have hf5 := foot_rel [w7.heap.size] hI5.r
              have e2 : (pre ++ [((T, tq, tl) : TV)]).length = pre.length + 1 := by simp
              refine ⟨kall.keeps (fun k hk o ho => ?_) _, Kf.of_kept kall (fun k hk => by rw [HFW.out]; exact hk) (by
                rw [hf5, HFW.out]
                intro k hk
                rcases List.mem_append.1 hk with hk | hk
                · exact .inl (by simp at hk; simp [hk])
                · rcases HS4.out k hk with h1 | h1
                  · exact .inl (by simp [h1])
                  · exact .inr h1) (fun k hk => by
                rw [hf5] at hk
                rcases List.mem_append.1 hk with hk | hk
                · simp only [List.mem_singleton] at hk
                  subst hk
                  exact hI5.o8.lt
                · exact hI5.r.sub k hk), ts4, S4, tc1, Sc1, by rw [e2]; exact hI5⟩
              rcases List.mem_append.1 hk with hk | hk
              · simp only [List.mem_singleton] at hk
                subst hk
                have h8 := HI0.out.o8
                unfold Own at h8
                rw [h8] at ho
                cases ho
                rfl
              · exact HI0.out.r.cells k hk o ho
            gi_wp2_with fail
            exact HQ.out
          case done =>
            rintro D ys W hD hys ⟨ts1, S1, tc1, Sc1, hI⟩ hK
            have e1 : ys.length = L.length := by rw [← hys]; simp
            have e2 : ts.length = L.length := by rw [← HRl.out]; simp
            have e3 : tc1.length = L.length := by rw [← hI.cl]; simp
            have hy1 : ys.length = ts.length := by omega
            have hc1 : tc1.length = ts.length := by omega
            have hle : ts1.length ≤ 1 := by
              have h1 : (lists ts1).length ≤ 1 := sor_one (x := xl) hI.good.2.1 fun y hy => by
                rcases hI.some y hy with h2 | h2
                · rw [List.drop_eq_nil_of_le (by omega)] at h2
                  cases h2
                · exact h2
              simpa using h1
            rw [hy1] at hI
            have h80 := hI.o8.cell 0
            have q80 := hI.o8.lt
            have h70 := hI.o7.cell 0
            have q70 := hI.o7.lt
            have h50 := hI.o5.cell 0
            have q50 := hI.o5.lt
            have h40 := hI.o4.cell 0
            have f40 := hI.o4.frozen 0
            have q40 := hI.o4.lt
            have HLc := Lib.hid (Len_any bc _ tc1 Sc1 W hI.c)
            rw [hc1] at HLc
            have HLr := Lib.hid (Len_any br _ ts1 S1 W hI.r)
            have hle' : (ts1.length : Int) ≤ 1 := by omega
            have HII := Lib.hid hI
            have HKD := Lib.hid hK
            have HD := Lib.hid hD
            clear hI hK hys e1 e2 e3 hy1 hc1 hle hD
            gi_wp2_with fail
            refine (callsIn_wide.2 HLc.out).mono ?_
            rintro e u1 ⟨rfl, rfl⟩
            gi_wp2_with fail
            refine (callsIn_wide.2 HLr.out).mono ?_
            rintro e u2 ⟨rfl, rfl⟩
            gi_wp2
            have hK2 : (W.setCell ⟨w.heap.size + 1, 0, none⟩ (.bool true)).heap[D]? = some (.deferred (some [])) := (KeepsOthers.setCell _ _ _).same D _ HKD.out rfl
            have hO4 := HII.out.o4.set 0 (.bool true)
            have hcm : Calm w9.heap.size (W.setCell ⟨w.heap.size + 1, 0, none⟩ (.bool true)) ((W.setCell ⟨w.heap.size + 1, 0, none⟩ (.bool true)).putObj D (.deferred none)) := Calm.put _ hK2 rfl HD.out
            refine ⟨by simp, .inl ⟨_, _, rfl, run_takeDeferred hK2, ?_⟩⟩
            exact ⟨.bool true, (by simp [results, Try.results7, go_sem, (hcm.own hO4).cell 0]), rfl, Below.calm (HII.out.low.setCell (p := ⟨w.heap.size + 1, 0, none⟩) (by simp) _) hcm (Nat.le_refl _) hlow9⟩
          case stop =>
            rintro D c pre W _ _ h _
            exact h.elim
        · have O4 := Lib.hid (O4.out.below hb4)
          have B4 := Lib.hid (B3.out.trans (hb4.mono B3.out.size))
          clear hb4 HO h40 f40 q40 h30 q30 hc0 hg0 B3
          have h40 := O4.out.cell 0
          have f40 := O4.out.frozen 0
          have q40 := O4.out.lt
          have k1 := neq_eno n
          gi_wp2_with fail
          exact ⟨.bool true, (by simp [results, Try.results7, go_sem, ((O4.out.set 0 (.bool true)).alloc (.cells #[.pointer none] 24)).cell 0]), rfl, (B4.out.setCell (p := ⟨w.heap.size + 1, 0, none⟩) (by simp) _).alloc (by have := B4.out.size; simp [World.setCell]; omega) _⟩
end Go.Proofs.Ytbahmkhnnahddaa
