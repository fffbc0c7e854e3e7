/- Is: a relation and the document's list. Conditions: at most 2000 tuples. -/
import Derived.Test.YtbahmkhnnahddaaRelWk
import Derived.Shelf.RegionOpen
namespace Go.Proofs.Ytbahmkhnnahddaa
open Go.RowKit Go.Deep Go.Shelf
attribute [local go_sem] Oper.semAt_some

/-- the document's relation as a value. -/
abbrev mv (a : Int) (A : Option Addr) (n c : Nat) : Value := .agg #[.int .i64 a, .slice A n c]

theorem foot_int {W : World} {B : Nat} {n : Int} (Z : List Nat) (h : W.cell? ⟨B, 0, none⟩ = some (.int .i64 n)) : footL Z B 0 W = Z ++ [B] := by
  unfold footL
  rw [h]
/-- the list and the boxes, between two rounds. -/
structure IsI (w : World) (b b3 b4 b5 : Nat) (a : Int) (A : Option Addr) (c : Nat) (ts us : List TV) (S : List Nat) (k : Nat) (W : World) : Prop where
  r : RelAt W b a ts S
  u : Lst [] W A us
  o3 : Own W b3 33 [.int .i64 a, .slice A ts.length c]
  o4 : Own W b4 4 [.bool false]
  o5 : Own W b5 3 [.int .i64 k]
  low : Below w.heap.size w W
section
variable {w : World} {b b3 b4 b5 : Nat} {a : Int} {A : Option Addr} {c : Nat} {ts us : List TV} {S : List Nat} {k B : Nat} {U V : World}
theorem IsI.calm (h : IsI w b b3 b4 b5 a A c ts us S k U) (hc : Calm B U V) (hB : w.heap.size ≤ B) : IsI w b b3 b4 b5 a A c ts us S k V :=
  ⟨h.r.calm hc, h.u.calm hc, hc.own h.o3, hc.own h.o4, hc.own h.o5, Below.calm h.low hc (Nat.le_refl _) hB⟩
theorem IsI.below (h : IsI w b b3 b4 b5 a A c ts us S k U) (hb : Below U.heap.size U V) : IsI w b b3 b4 b5 a A c ts us S k V :=
  h.calm (B := w.heap.size) (Calm.of_below _ hb) (Nat.le_refl _)
end

set_option maxRecDepth 100000 in
set_option maxHeartbeats 2000000 in
theorem Is_any (b : Nat) (a : Int) (ts : List TV) (S : List Nat) (A : Option Addr) (c : Nat) (us : List TV) (w : World) (h : RelAt w b a ts S) (hg : Good a (lists ts)) (hu : Lst [] w A us) (he : lists us = lists ts) :
    Calls Try.prog 20 #[rp b, mv a A us.length c] w fun e w' => e = .returned (.bool true) ∧ Below w.heap.size w w' := by
  refine (callsIn_wide (n := 9)).1 ?_
  have n20 : Fence.wide.fn 20 := trivial
  have n49 : Fence.wide.fn 49 := trivial
  have n36 : Fence.wide.fn 36 := trivial
  have n37 : Fence.wide.fn 37 := trivial
  have n35 : Fence.wide.fn 35 := trivial
  have n75 : Fence.wide.fn 75 := trivial
  have hlen : us.length = ts.length := by have := congrArg List.length he; simpa using this
  have hB0 : Below w.heap.size w ((w.alloc (.cells #[.int .i64 a, .slice A us.length c] 33)).alloc (.cells #[.bool false] 4)) := ((Below.refl _ w).alloc (Nat.le_refl _) _).alloc (by simp) _
  have hO3 : Own ((w.alloc (.cells #[.int .i64 a, .slice A us.length c] 33)).alloc (.cells #[.bool false] 4)) w.heap.size 33 [.int .i64 a, .slice A us.length c] := by
    have h1 : Own (w.alloc (.cells #[.int .i64 a, .slice A us.length c] 33)) w.heap.size 33 [.int .i64 a, .slice A us.length c] := heap_alloc_new w _
    exact h1.alloc _
  have hO4 : Own ((w.alloc (.cells #[.int .i64 a, .slice A us.length c] 33)).alloc (.cells #[.bool false] 4)) (w.heap.size + 1) 4 [.bool false] := by
    have h1 := heap_alloc_new (w.alloc (.cells #[.int .i64 a, .slice A us.length c] 33)) (.cells #[.bool false] 4)
    rw [World.size_alloc] at h1
    exact h1
  obtain ⟨w0, hw0⟩ : ∃ w0, w0 = (w.alloc (.cells #[.int .i64 a, .slice A us.length c] 33)).alloc (.cells #[.bool false] 4) := ⟨_, rfl⟩
  rw [← hw0] at hB0 hO3 hO4
  have HR := Lib.hid (h.below hB0)
  have HU := Lib.hid (hu.below hB0)
  have HG := Lib.hid hg
  have HE := Lib.hid he
  have B0 := Lib.hid hB0
  have O3 := Lib.hid hO3
  have O4 := Lib.hid hO4
  have HW := Lib.hid hw0
  have h2000 := hg.len
  have h30 := hO3.cell 0
  have h31 := hO3.cell 1
  have q30 := hO3.lt
  have HAr := Lib.hid (Arity_any b a ts S w0.drew (HR.out.below (Below.refl _ _).drew))
  have HLe := Lib.hid (Len_any b a ts S w0.drew (HR.out.below (Below.refl _ _).drew))
  rw [hlen] at h31 O3 HW ⊢
  clear h hu hg he hB0 hO3 hO4 hw0
  refine callsIn_of_wp_marks Try.func20 rfl n20 ?_ rfl
  simp only [Try.ntmps20, List.size_toArray, List.length_cons, List.length_nil, Nat.reduceAdd, Nat.reduceSub, Array.replicate_succ, Array.replicate_zero, List.push_toArray, List.append_toArray, List.nil_append, List.cons_append]
  gi_wp2_with fail
  rw [← HW.out]
  have mixed : Try.prog.follows .mixedOrders = true := by kernel_rfl
  refine wpIn_mono (Q := NoPanic _) ?_ NoPanic.imp
  gi_region_with_o (first
    | (gi_at_call 49; refine (callsIn_wide.2 (HAr.out)).mono ?_; rintro e w' ⟨rfl, rfl⟩)
    | (gi_at_call 36; refine (callsIn_wide.2 (HLe.out)).mono ?_; rintro e w' ⟨rfl, rfl⟩))
  all_goals refine NoPanic.normal ?_
  all_goals gi_wp2_with fail
  all_goals
    have hb5 : Below w0.heap.size w0 (w0.alloc (.cells #[.int .i64 0] 3)).drew := ((Below.refl _ _).alloc (Nat.le_refl _) _).drew
    have hO5 : Own (w0.alloc (.cells #[.int .i64 0] 3)).drew w0.heap.size 3 [.int .i64 0] := heap_alloc_new w0 _
    have hs5 : (w0.alloc (.cells #[.int .i64 0] 3)).drew.heap.size = w0.heap.size + 1 := by show (w0.alloc _).heap.size = _; simp
    obtain ⟨w5, hw5⟩ : ∃ w5, w5 = (w0.alloc (.cells #[.int .i64 0] 3)).drew := ⟨_, rfl⟩
    rw [← hw5] at hb5 hO5 hs5 ⊢
    have hI5 : IsI w b w.heap.size (w.heap.size + 1) w0.heap.size a A c ts us S 0 w5 := ⟨HR.out.below hb5, HU.out.below hb5, O3.out.below hb5, O4.out.below hb5, hO5, B0.out.trans (hb5.mono B0.out.size)⟩
    have HRw : Hid (∀ t ∈ ts, RowO [w0.heap.size] w5 t.1 t.2.2) := fun t ht => (HR.out.rows t ht).kept (Kept.of S hb5) (fun k hk => .inr (by simp only [List.mem_singleton] at hk; omega))
    clear hb5 hO5 hw5 HAr HLe O3 O4 HU h30 h31 q30 HW
    refine (callsIn_wide.2 (All_any b w5)).mono ?_
    rintro e w9 ⟨rfl, hw9⟩
    have hb9 : Below w5.heap.size w5 w9 := by rw [hw9]; exact ((Below.refl _ _).alloc (Nat.le_refl _) _).alloc (by simp) _
    have hb1 : w9.cell? ⟨w5.heap.size, 0, none⟩ = some (rp b) := by
      have h1 : Own (w5.alloc (.cells #[rp b] 24)) w5.heap.size 24 [rp b] := heap_alloc_new w5 _
      rw [hw9]
      exact (h1.alloc _).cell 0
    have hb2 : w9.cell? ⟨w5.heap.size + 1, 0, none⟩ = some (.func (.func 61) #[] #[]) := by
      have h1 : Own ((w5.alloc (.cells #[rp b] 24)).alloc (.cells #[.func (.func 61) #[] #[]] 39)) (w5.alloc (.cells #[rp b] 24)).heap.size 39 [.func (.func 61) #[] #[]] := heap_alloc_new _ _
      rw [World.size_alloc] at h1
      rw [hw9]
      exact h1.cell 0
    have HI9 := Lib.hid (hI5.below hb9)
    have HR9 : Hid (∀ t ∈ ts, RowO [w0.heap.size] w9 t.1 t.2.2) := fun t ht => (HRw.out t ht).below hb9
    have HB1 := Lib.hid hb1
    have HB2 := Lib.hid hb2
    have H59 := Lib.hid hb9.size
    have HS5 := Lib.hid hs5
    have hlow9 : w.heap.size ≤ w9.heap.size := HI9.out.low.size
    clear hw9 hb9 hb1 hb2 hI5 HRw hs5
    gi_wp2_with fail
    have HFl : Hid ((lists ts).filter (fun _ => true) = lists ts) := List.filter_eq_self.2 (fun _ _ => rfl)
    refine' range_law (Kp := Kf [] w0.heap.size 0) (Px := Yd [] w0.heap.size 0 0 (lists ts)) (S := fun us => lists us = lists ts) (Sp := fun pre => lists pre <+: lists ts) (encs := fun x : TV => #[tval x]) rfl (by omega) (gf := 75) (lb := #[.pointer (some ⟨w5.heap.size, 0, none⟩), .pointer (some ⟨w5.heap.size + 1, 0, none⟩)]) rfl n75 (enters_of Try.func75 (by kernel_rfl) rfl)
      ?seq (fun h h' => h.trans h') (fun U V hU hc => Kf.of_calm hc (by have := HS5.out; have := H59.out; omega) (by have := HS5.out; have := H59.out; omega)) (fun _ => rfl)
      (fun pre W => IsI w b w.heap.size (w.heap.size + 1) w0.heap.size a A c ts us S pre.length W) (fun _ _ _ => False) (fun pre U V h hc => h.calm hc hlow9) (fun _ _ _ _ h _ => h)
      (fun pre x U V h hc => ?px) HI9.out _ ?assign ?body ?done ?stop
    case assign =>
      intro l x W K hK
      gi_wp2
      exact hK
    case px =>
      obtain ⟨h1, h2, h3, h4, h5⟩ := h
      refine ⟨h1, ?_, h3, Nat.lt_of_lt_of_le h4 hc.size, h5⟩
      rw [foot_same (calm_cell hc h4 (by have := HS5.out; have := H59.out; omega))]
      exact h2.calm hc
    case seq =>
      intro l J Jx W hW hJ hJx hY h0
      have hIW := HI9.out.below hW
      obtain ⟨A1, c1, ho1, hA1, hl1, _⟩ := hIW.r.open_
      have hfW : footL [] w0.heap.size 0 W = [] ++ [w0.heap.size] := foot_int [] (hIW.o5.cell 0)
      have h7 : w0.heap.size < W.heap.size := hIW.o5.lt
      have hth := those_in 8 (by omega) l [] w0.heap.size 0 0 w5.heap.size (w5.heap.size + 1) 61 (rp b) #[] #[] A1 c1 ts (fun _ => true) J Jx W (Nat.zero_le _) h7 ((Calm.of_below 0 hW).cell HB1.out) ((Calm.of_below 0 hW).cell HB2.out) (by
          rw [hfW]
          intro hm
          simp only [List.nil_append, List.mem_singleton] at hm
          have := HS5.out
          omega)
        (fun W' hb' => list_at b _ _ W' ((Calm.of_below 0 hb').own ho1) A1 ts.length c1 rfl) hA1 hl1 (fun t ht => ⟨by rw [hfW]; exact (HR9.out t ht).below hW, by
          obtain ⟨_, _, _, _, _, _, hh⟩ := hIW.r
          exact (hh t ht).2, by
          have := right_six (HG.out.1 _ (List.mem_map_of_mem ht)).1
          omega⟩) HG.out.len (fun k hk => by
          rw [hfW] at hk
          simp only [List.nil_append, List.mem_singleton] at hk
          omega) (enters_of Try.func61 (by kernel_rfl) rfl) (fun t W' _ _ _ => all1_true t W') hJ hJx (by rw [HFl.out]; exact hY) h0
      rw [HFl.out] at hth
      exact hth
    case body =>
      rintro l pre ⟨T, tq, tl⟩ W hI ⟨hpre, hx, hxn, _, _⟩
      have hdrop := drop_next hpre
      simp only at hdrop hx
      have hk : pre.length < ts.length := by
        have := hpre.length_le
        simp only [List.length_map, List.length_append, List.length_singleton] at this
        omega
      have hku : pre.length < us.length := by omega
      obtain ⟨g, o, rfl, hgw, _, hc, hr⟩ := hI.u.at_ hku
      have he1 : us[pre.length].2.2 = tl := by
        have h1 : (lists us)[pre.length]? = (lists ts)[pre.length]? := by rw [HE.out]
        have h2 : (lists ts)[pre.length]? = some tl := by
          have := congrArg (fun q => q[0]?) hdrop
          simpa [List.getElem?_drop] using this
        rw [h2] at h1
        simp [hku] at h1
        exact h1
      generalize us[pre.length] = t at hc hr he1
      obtain ⟨U, uc, ul⟩ := t
      simp only at he1 hr
      subst he1
      have hc : W.cell? ⟨g, o + pre.length, none⟩ = some (.slice U ul.length uc) := hc
      have htl : ul ∈ lists ts := by
        have : ul ∈ (lists ts).drop pre.length := by rw [hdrop]; exact List.mem_cons_self ..
        exact List.mem_of_mem_drop this
      have HSm := Lib.hid (Same_any T U tq uc ul (right_fit (HG.out.1 ul htl).1) W hx.row hr.row)
      have h50 := hI.o5.cell 0
      have q50 := hI.o5.lt
      have h31 := hI.o3.cell 1
      have q30 := hI.o3.lt
      have HI0 := Lib.hid hI
      have hk0 : (pre.length : Int) < (ts.length : Int) := by omega
      have hk00 : (0 : Int) ≤ (pre.length : Int) := by omega
      clear hI hx hr hdrop hpre htl
      gi_wp2_with fail
      refine (CallsIn.inRound l (callsIn_wide.2 HSm.out)).mono ?_
      rintro e u1 ⟨rfl, b1⟩
      have HI1 := Lib.hid (HI0.out.below b1)
      have B1 := Lib.hid b1
      clear b1 h50 q50 h31 q30 hc HSm
      have h50 := HI1.out.o5.cell 0
      have f50 := HI1.out.o5.frozen 0
      have q50 := HI1.out.o5.lt
      have HQ : Hid (KeepsFrom w9.heap.size W (u1.setCell ⟨w0.heap.size, 0, none⟩ (.int .i64 ((pre.length : Int) + 1))) ∧ Kf [] w0.heap.size 0 W (u1.setCell ⟨w0.heap.size, 0, none⟩ (.int .i64 ((pre.length : Int) + 1))) ∧
          IsI w b w.heap.size (w.heap.size + 1) w0.heap.size a (some ⟨g, o, none⟩) c ts us S (pre ++ [((T, tq, ul) : TV)]).length (u1.setCell ⟨w0.heap.size, 0, none⟩ (.int .i64 ((pre.length : Int) + 1)))) := by
        have kb : Kept [w0.heap.size] u1 (u1.setCell ⟨w0.heap.size, 0, none⟩ (.int .i64 ((pre.length : Int) + 1))) := (Kept.refl _ u1).setCell (.inl (by simp)) _
        have kall : Kept [w0.heap.size] W (u1.setCell ⟨w0.heap.size, 0, none⟩ (.int .i64 ((pre.length : Int) + 1))) := (Kept.of _ B1.out).trans kb (Sub.refl _ _)
        have e2 : (((pre ++ [((T, tq, ul) : TV)]).length : Nat) : Int) = (pre.length : Int) + 1 := by simp
        have ho5 : Own (u1.setCell ⟨w0.heap.size, 0, none⟩ (.int .i64 ((pre.length : Int) + 1))) w0.heap.size 3 [.int .i64 ((pre ++ [((T, tq, ul) : TV)]).length : Nat)] := by
          rw [e2]
          exact HI1.out.o5.set 0 _
        have hf0 : footL [] w0.heap.size 0 W = [] ++ [w0.heap.size] := foot_int [] (HI0.out.o5.cell 0)
        have hf5 := foot_int [] (ho5.cell 0)
        have hnS := HI1.out.r.off_box HI1.out.o5
        have off : ∀ {A : Option Addr} {l : List V3} {T : List Nat}, RowO T u1 A l → RowO [w0.heap.size] u1 A l := fun hr => (hr.off_box HI1.out.o5).fewer (fun k hk => .inl (by simp only [List.mem_singleton] at hk; simp [hk]))
        have hB := B0.out.size
        have hlow := HI1.out.low.size
        have n3 : w.heap.size ∉ [w0.heap.size] := fun hm => by
          simp only [List.mem_singleton] at hm
          have := Own.inj HI1.out.o3 (hm ▸ HI1.out.o5)
          revert this
          decide
        have n4 : w.heap.size + 1 ∉ [w0.heap.size] := fun hm => by
          simp only [List.mem_singleton] at hm
          have := Own.inj HI1.out.o4 (hm ▸ HI1.out.o5)
          revert this
          decide
        refine ⟨kall.keeps (fun k hk q hq => ?_) _, Kf.of_kept kall (fun k hk => by rw [hf0]; exact hk) (by rw [hf5, hf0]; exact Sub.refl _ _) (fun k hk => by
            rw [hf5] at hk
            simp only [List.nil_append, List.mem_singleton] at hk
            subst hk
            exact ho5.lt), HI1.out.r.kept kb (fun g hg hm => hnS (by simp only [List.mem_singleton] at hm; rw [← hm]; exact hg)) (fun t ht => off (HI1.out.r.rows t ht)), ?_, kb.own HI1.out.o3 n3, kb.own HI1.out.o4 n4, ho5, HI1.out.low.setCell (p := ⟨w0.heap.size, 0, none⟩) hB _⟩
        · simp only [List.mem_singleton] at hk
          subst hk
          have h8 := HI0.out.o5
          unfold Own at h8
          rw [h8] at hq
          cases hq
          rfl
        · refine ⟨fun h0 => ?_, fun t ht => ((off (HI1.out.u.2 t ht)).kept kb (Sub.refl _ _)).fewer (fun k hk => by cases hk)⟩
          obtain ⟨b1', o1, e1, l1, _, c1⟩ := HI1.out.u.1 h0
          have hne : b1' ∉ [w0.heap.size] := fun hm => by
            simp only [List.mem_singleton] at hm
            subst hm
            have h3 := c1 0 _ (List.getElem?_eq_getElem h0)
            rw [HI1.out.o5.cell] at h3
            cases o1 with
            | zero => simp at h3
            | succ o1 => simp at h3
          exact ⟨b1', o1, e1, Nat.lt_of_lt_of_le l1 kb.size, List.not_mem_nil, fun i t ht => (kb.cell (p := ⟨b1', o1 + i, none⟩) l1 hne).trans (c1 i t ht)⟩
      gi_wp2_with fail
      exact HQ.out
    case done =>
      rintro D ys W hD hys hI hK
      have e1 : ys.length = ts.length := by have := congrArg List.length hys; simpa using this
      rw [e1] at hI
      have h50 := hI.o5.cell 0
      have q50 := hI.o5.lt
      have h31 := hI.o3.cell 1
      have q30 := hI.o3.lt
      have h40 := hI.o4.cell 0
      have f40 := hI.o4.frozen 0
      have q40 := hI.o4.lt
      have HII := Lib.hid hI
      have HKD := Lib.hid hK
      have HD := Lib.hid hD
      clear hI hK hys e1 hD
      gi_wp2
      have hK2 : (W.setCell ⟨w.heap.size + 1, 0, none⟩ (.bool true)).heap[D]? = some (.deferred (some [])) := (KeepsOthers.setCell _ _ _).same D _ HKD.out rfl
      have hO4 := HII.out.o4.set 0 (.bool true)
      have hcm : Calm w9.heap.size (W.setCell ⟨w.heap.size + 1, 0, none⟩ (.bool true)) ((W.setCell ⟨w.heap.size + 1, 0, none⟩ (.bool true)).putObj D (.deferred none)) := Calm.put _ hK2 rfl HD.out
      refine ⟨by simp, .inl ⟨_, _, rfl, run_takeDeferred hK2, ?_⟩⟩
      exact ⟨.bool true, (by simp [results, Try.results20, go_sem, (hcm.own hO4).cell 0]), rfl, Below.calm (HII.out.low.setCell (p := ⟨w.heap.size + 1, 0, none⟩) (by simp) _) hcm (Nat.le_refl _) hlow9⟩
    case stop =>
      rintro D c pre W _ _ h _
      exact h.elim
end Go.Proofs.Ytbahmkhnnahddaa
