/- RelPlays' walk. Conditions: texts within the form's reach. -/
import Derived.Test.YtdgjpikipkjhhaaRelPa
namespace Go.Proofs.Ytdgjpikipkjhhaa
open Go.RowKit Go.Deep Go.Shelf

theorem PlJ.loosen1 {G : List Nat} {w W W' : World} {br bm g : Nat} {a : Int} {L M : List (List V3)} {A : Option Addr} {nn c : Nat} (h : PlJ G w br bm a L M A nn c W) (hk : Kept [g] W W') (hg : g ∈ G) (hw : w.heap.size ≤ g) : PlJ [] w br bm a L M A nn c W' := by
  obtain ⟨ts, S, h1, h2, h3, h4, h5, h6, h7, h8, h9, h10, h11, h12, h13⟩ := h
  have hs : Sub [g] G W.heap.size := fun k hk => by simp only [List.mem_singleton] at hk; subst hk; exact .inl hg
  refine ⟨ts, S, h1.kept hk (fun k hk1 hm => by simp only [List.mem_singleton] at hm; subst hm; exact (h8 k hg).1 hk1) (fun t ht => (h9 t ht).fewer hs), h2, h3, h4, h5, h6, h7, (fun g hg => by cases hg), fun t ht => ((h9 t ht).fewer hs).kept hk (fun k hk => by cases hk), hk.own h10 (by simp only [List.mem_singleton]; exact fun e => (h8 g hg).2 e.symm), h11.kept (hk.more (fun k hk => by simp only [List.mem_singleton] at hk; subst hk; simp [hg])) (fun k hk => .inl (by simp at hk ⊢; rcases hk with rfl | hk; exact .inl rfl; exact .inr (.inr hk))), h12.trans (hk.below h12.size (fun k hk => by simp only [List.mem_singleton] at hk; omega)), h13⟩

/-- the act's box and the document's relation's. -/
abbrev Dx (W : World) (b9 bm : Nat) (v u : Value) (a : Int) (A : Option Addr) (n c : Nat) (w : World) : Prop :=
  w.cell? ⟨b9, 0, none⟩ = some v ∧ w.cell? ⟨b9, 1, none⟩ = some u ∧ w.cell? ⟨bm, 0, none⟩ = some (.int .i64 a) ∧ w.cell? ⟨bm, 1, none⟩ = some (.slice A n c) ∧ b9 < w.heap.size ∧ bm < w.heap.size ∧ Below W.heap.size W w
section
variable {W w w' : World} {b9 bm : Nat} {a : Int} {A : Option Addr} {n c : Nat} {v u : Value}
theorem Dx.step (h : Dx W b9 bm v u a A n c w) (hb : Below w.heap.size w w') : Dx W b9 bm v u a A n c w' :=
  ⟨(hb.cell (p := ⟨b9, 0, none⟩) h.2.2.2.2.1).trans h.1, (hb.cell (p := ⟨b9, 1, none⟩) h.2.2.2.2.1).trans h.2.1, (hb.cell (p := ⟨bm, 0, none⟩) h.2.2.2.2.2.1).trans h.2.2.1, (hb.cell (p := ⟨bm, 1, none⟩) h.2.2.2.2.2.1).trans h.2.2.2.1,
    Nat.lt_of_lt_of_le h.2.2.2.2.1 hb.size, Nat.lt_of_lt_of_le h.2.2.2.2.2.1 hb.size, h.2.2.2.2.2.2.trans (hb.mono h.2.2.2.2.2.2.size)⟩
theorem dx_below (h : Dx W b9 bm v u a A n c w) : Below W.heap.size W w := h.2.2.2.2.2.2
theorem Dx.of {T T' : TypeId} (h : Own w b9 T [v, u]) (h' : Own w bm T' [.int .i64 a, .slice A n c]) (hb : Below W.heap.size W w) : Dx W b9 bm v u a A n c w :=
  ⟨h.cell 0, h.cell 1, h'.cell 0, h'.cell 1, h.lt, h'.lt, hb⟩
end

set_option maxRecDepth 100000 in
set_option maxHeartbeats 1000000 in
theorem plays_walk (a : Int) (A : Option Addr) (c : Nat) (acts : List AV) (w : World) (hx : ActL w A acts) :
    Calls Try.prog 3 #[.int .i64 a, .slice A acts.length c] w fun e w' => e = .returned (.bool true) ∧ Below w.heap.size w w' := by
  have hlen := hx.2.2
  unfold maxLen at hlen
  have HX := Lib.hid hx
  have HAl := Lib.hid (alive_any w)
  clear hx
  go_enter Try.func3, Try.ntmps3
  go_wp2_with fail
  refine HAl.out.mono ?_
  rintro e w1 ⟨rfl, b1⟩
  have B1 := Lib.hid b1
  clear b1 HAl
  by_cases h60 : (60 : Int) < (acts.length : Int)
  · go_wp2
    go_ret
    exact ⟨rfl, B1.out⟩
  · by_cases hbad : a < 0 ∨ 6 < a
    · have HN := Lib.hid (New_bad a w1 hbad)
      have k1 := fun w => (binOp .eql 24 (.pointer none) (.pointer none)).run Try.prog w = .ok (.bool true) w
      go_wp2_with fail
      refine HN.out.mono ?_
      rintro e w2 ⟨rfl, rfl⟩
      clear k1 HN
      by_cases h0 : a < 0
      · clear hbad
        go_wp2_with fail
        refine (Is_eno 6 6 _ rfl true rfl).mono ?_
        rintro e w2 ⟨rfl, rfl⟩
        go_wp2
        go_ret
        exact ⟨rfl, B1.out⟩
      · have h6 : 6 < a := by omega
        clear hbad
        go_wp2_with fail
        refine (Is_eno 6 6 _ rfl true rfl).mono ?_
        rintro e w2 ⟨rfl, rfl⟩
        go_wp2
        go_ret
        exact ⟨rfl, B1.out⟩
    · have h0 : 0 ≤ a := by omega
      have h6 : a ≤ 6 := by omega
      have HN := Lib.hid (New_ok a w1 h0 h6)
      have H6 := Lib.hid h6
      clear hbad
      go_wp2_with fail
      refine HN.out.mono ?_
      rintro e w2 ⟨rfl, hr, hb⟩
      have hbm := (Below.refl w2.heap.size w2).alloc (Nat.le_refl _) (.cells #[.int .i64 a, .slice none 0 0] 33)
      have hob : Own (w2.alloc (.cells #[.int .i64 a, .slice none 0 0] 33)) w2.heap.size 33 [.int .i64 a, .slice none 0 0] := heap_alloc_new w2 _
      have hs1 := B1.out.size
      have hs2 := hb.size
      have hlt := hr.sub w1.heap.size (by simp)
      have HP0 : Hid (PlJ [] w w1.heap.size w2.heap.size a [] [] none 0 0 (w2.alloc (.cells #[.int .i64 a, .slice none 0 0] 33))) :=
        ⟨[], [w1.heap.size], hr.below hbm, rfl, Good.nil a, LOk.nil, Nat.zero_le _, (fun j hj => by simp only [List.mem_singleton] at hj; omega), by simp only [List.mem_singleton]; omega, (fun g hg => by cases hg), (fun t ht => by cases ht), hob, ⟨[], ⟨none, 0, rfl, (fun _ => rfl), Nat.le_refl _, Lst.nil _ _ _, (fun t h => by cases h), .inl rfl⟩, rfl⟩, B1.out.trans ((hb.trans (hbm.mono hb.size)).mono hs1), by omega⟩
      clear hr hb hbm hob hs1 hs2 hlt HN B1
      generalize w1.heap.size = br at HP0 ⊢
      obtain ⟨w3, hw3⟩ : ∃ w3, w3 = w2.alloc (.cells #[.int .i64 a, .slice none 0 0] 33) := ⟨_, rfl⟩
      rw [← hw3] at HP0
      have HW3 := Lib.hid hw3
      clear hw3
      go_wp2_with fail
      go_loopw [46] (fun ix wr => ∃ k : Nat, k ≤ acts.length ∧ ix = .int .i64 k ∧ Hid (∃ L A0 nn c0, PlJ [] w br w2.heap.size a L L A0 nn c0 wr)) (fun ix _ => acts.length - (intOf ix).toNat)
      case atStart =>
        refine ⟨0, Nat.zero_le _, rfl, [], none, 0, 0, ?_⟩
        rw [← HW3.out]
        exact HP0.out
      case round =>
        obtain ⟨k, hk, rfl, HI⟩ := hrel
        obtain ⟨L, A0, nn, c0, HJ⟩ := HI.out
        have HJ := Lib.hid HJ
        clear HI HP0 HW3
        generalize w2.heap.size = bm at HJ ⊢
        by_cases hlt : k < acts.length
        · obtain ⟨g, o, rfl, qg, c1, c2, r1, r2, r3, r4⟩ := HX.out.at_ HJ.out.low hlt
          have r0 := (HX.out.2.1 _ (List.getElem_mem hlt)).1
          generalize acts[k] = t at c1 c2 r0 r1 r2 r3 r4
          obtain ⟨⟨X, xc, xl⟩, d⟩ := t
          change wr.cell? ⟨g, o + k * 2, none⟩ = some (.slice X xl.length xc) at c1
          simp only at c2 r0 r1 r2 r3 r4
          have HXR : Hid (∀ W, Below w.heap.size w W → Row W X xl) := fun W hb => r0.below hb
          clear r0
          have hbA : Below wr.heap.size wr (wr.alloc (.cells #[.slice X xl.length xc, .bool d] 37)) := (Below.refl _ wr).alloc (Nat.le_refl _) _
          have hoA : Own (wr.alloc (.cells #[.slice X xl.length xc, .bool d] 37)) wr.heap.size 37 [.slice X xl.length xc, .bool d] := heap_alloc_new wr _
          have hbV := (Below.refl (wr.alloc (.cells #[.slice X xl.length xc, .bool d] 37)).heap.size (wr.alloc (.cells #[.slice X xl.length xc, .bool d] 37))).alloc (Nat.le_refl _) (.cells #[.slice X xl.length xc] 35)
          have hoV := heap_alloc_new (wr.alloc (.cells #[.slice X xl.length xc, .bool d] 37)) (.cells #[.slice X xl.length xc] 35)
          rw [World.size_alloc] at hoV
          have hbW := hbA.trans (hbV.mono hbA.size)
          have hoW := hoA.below hbV
          have HLo := Lib.hid (Long_lst (some ⟨wr.heap.size + 1, 0, none⟩) 1 [(X, xc, xl)] (by simp) _ (lst_one hoV (r1.below hbW)) (fun t ht => by simp only [List.mem_singleton] at ht; subst ht; exact ⟨r3, r4⟩))
          have HJ1 := Lib.hid (HJ.out.grow hbW (Nat.le_refl _))
          have HR1 := Lib.hid (r1.below hbW)
          have HO9 := Lib.hid hoW
          have HXN := Lib.hid r2
          have HXL := Lib.hid r4
          clear hbA hoA hbV hoV hbW hoW r1 r2 r3 r4 HJ
          obtain ⟨b9, hb9⟩ : ∃ b, wr.heap.size = b := ⟨_, rfl⟩
          simp only [List.length_cons, List.length_nil, Nat.zero_add] at HLo
          rw [hb9] at HLo HJ1 HO9
          go_wp2_with fail
          with_reducible refine HLo.out.mono ?_
          rintro e w4 ⟨r, rfl, hr, hb4⟩
          have HSm := Lib.hid (fun h => hr h (X, xc, xl) (by simp))
          have HJ4 := Lib.hid (HJ1.out.below hb4)
          have HR4 := Lib.hid (HR1.out.below hb4)
          have HO9 := Lib.hid (HO9.out.below hb4)
          clear hr hb4 HLo HJ1 HR1 c1 c2 qg
          clear hb9
          have h90 := HO9.out.cell 0
          have h91 := HO9.out.cell 1
          have q9 := HO9.out.lt
          cases r with
          | true =>
            go_wp2
            go_ret
            exact ⟨rfl, HJ4.out.low⟩
          | false =>
            have HSx := Lib.hid (HSm.out rfl)
            clear HSm
            cases d with
            | true =>
              have HD := Lib.hid (pl_drop (HJ4.out.below (Below.refl _ w4).drew) (fun g hg => by simp only [List.mem_singleton] at hg; subst hg; exact q9) (X, xc, xl) (HR4.out.below (Below.refl _ w4).drew) HXL.out)
              simp only at HD
              have HDx := Lib.hid (Dx.of HO9.out HJ4.out.own HJ4.out.low)
              have HO9d := Lib.hid (HO9.out.below (Below.refl _ w4).drew)
              have mixed : Try.prog.follows .mixedOrders = true := by kernel_rfl
              obtain ⟨g70, g71⟩ := And.intro (HJ4.out.own.cell 0) (HJ4.out.own.cell 1)
              have q7 := HJ4.out.own.lt
              generalize hq : fndT L xl = q at HD
              have HQ := Lib.hid hq
              clear hq
              go_wp2_with fail
              go_region_held3 (fun w' => w'.cell? ⟨b9, 0, none⟩ = some (.slice X xl.length xc) ∧ w'.cell? ⟨b9, 1, none⟩ = some (.bool true) ∧ w'.cell? ⟨bm, 0, none⟩ = some (.int .i64 a) ∧ w'.cell? ⟨bm, 1, none⟩ = some (.slice A0 nn c0) ∧ b9 < w'.heap.size ∧ bm < w'.heap.size ∧ Below w.heap.size w w')
                (first | (with_reducible assumption) | (with_reducible exact HDx.out.step (Below.refl _ _).drew) | (with_reducible exact Dx.step (by assumption) hb) | go_keep)
                (first
                  | (go_at_call 12; (with_reducible refine HD.out.mono ?_); rintro e w' ⟨rfl, hp, hsame, hsz⟩; have hS := Dx.of ((hsame b9 (by simp)).trans HO9d.out) hp.own hp.low; have HP := Lib.hid hp; have HH := Lib.hid (pl_has hp (X, xc, xl) (HXR.out _ hp.low) HXL.out); simp only [HQ.out] at HH; have HO9e := Lib.hid (show Own w' b9 _ _ from (hsame b9 (by simp)).trans HO9d.out); clear hp hsame hsz)
                  | (go_at_call 13; (with_reducible refine HH.out.mono ?_); rintro e w' ⟨rfl, hb⟩; have HP := Lib.hid (HP.out.below hb); have HO9e := Lib.hid (HO9e.out.below hb)))
              clear HDx HO9d HJ4 HR4 HO9 HD h90 h91 q9 g70 g71 q7 HH hS
              have h90 := HO9e.out.cell 0
              have h91 := HO9e.out.cell 1
              have q9 := HO9e.out.lt
              have h70 := HP.out.own.cell 0
              have h71 := HP.out.own.cell 1
              have q7 := HP.out.own.lt
              have HRD := Lib.hid (pl_rdrop HP.out (fun g hg => by cases hg) (X, xc, xl) (HXR.out _ HP.out.low) HXL.out)
              simp only at HRD
              go_wp2_with fail
              with_reducible refine HRD.out.mono ?_
              rintro e w5 ⟨A2, n2, c2, rfl, hb5, hst⟩
              have ho7 := HP.out.own.below hb5
              have HJn := Lib.hid (hst _ (((Kept.refl [bm] w5).setCell (.inl (by simp)) (.int .i64 a)).setCell (.inl (by simp)) (.slice A2 n2 c2)) ho7.two)
              clear h70 h71 q7 h90 h91 q9 hst hb5 HRD HO9e
              have h70 := ho7.cell 0
              have h71 := ho7.cell 1
              have f70 := ho7.frozen 0
              have f71 := ho7.frozen 1
              have q7 := ho7.lt
              clear ho7
              go_wp2
              go_roundw
              case rel => exact ⟨k + 1, by omega, by go_num, _, _, _, _, HJn.out⟩
              case measure => simp [intOf]; omega
            | false =>
              have HTk : Hid (Tok (X, xc, xl)) := ⟨HXN.out, HSx.out.1, HSx.out.2.fit⟩
              have hxl50 : xl.length ≤ 50 := HSx.out.1
              have hga : Hid (Good a L) := by
                obtain ⟨_, _, _, h1, h2, _⟩ := HJ4.out
                subst h1
                exact h2
              have hbm : Below w4.heap.size w4 (w4.alloc (.cells #[] 48)) := (Below.refl _ _).alloc (Nat.le_refl _) _
              have hmade := World.ownsRow_made (base := w4.heap.size) (e := 48) (size := 3) w4 #[] 0 (Nat.le_refl _) (by unfold maxLen; omega) rfl
              obtain ⟨g', c', w5, hrun, hgb, hgl, howns, hk5⟩ := appO_run (w4.alloc (.cells #[] 48)) w4.heap.size w4.heap.size X xc xl hmade HXN.out (HR4.out.below hbm) (by omega) (by simp)
              have hb5 : Below w4.heap.size w4 w5 := ((Kept.of [w4.heap.size] hbm).trans hk5 (Sub.refl _ _)).below (Nat.le_refl _) (fun k hk => by simp only [List.mem_singleton] at hk; omega)
              obtain ⟨hN, hrow⟩ := OwnN.of howns
              have HJ5 := Lib.hid (HJ4.out.grow hb5 hgb)
              have HO95 := Lib.hid (HO9.out.below hb5)
              have hne9 : g' ≠ b9 := by have := HO9.out.lt; omega
              have HGw := Lib.hid (show w.heap.size ≤ g' from Nat.le_trans HJ4.out.low.size hgb)
              have hG5 : ∀ x ∈ [g', b9], x < w5.heap.size := fun x hx => by
                simp only [List.mem_cons, List.not_mem_nil, or_false] at hx
                rcases hx with rfl | rfl
                · exact hgl
                · exact HO95.out.lt
              have HG5 := Lib.hid hG5
              have HA := Lib.hid (pl_add HJ5.out hG5 (some ⟨g', 0, none⟩, c', xl) hrow ⟨(fun h => by cases h), HTk.out.2⟩)
              simp only at HA
              have HR1 := Lib.hid hrun
              have HN5 := Lib.hid hN
              have HNe := Lib.hid hne9
              clear hbm hmade hrun hgb hgl howns hk5 hb5 hN hrow hG5 hne9 HO9 HJ4 HR4 HSx
              go_wp2_with (first
                | (at_builtin; refine Lib.wpList_append_run _ rfl _ _ _ _ rfl _ _ rfl rfl _ _ HR1.out ?_))
              with_reducible refine HA.out.mono ?_
              rintro e w6 ⟨rfl, hp, hsame, hsz⟩
              have HJ6 := Lib.hid hp
              have HO96 := Lib.hid (show Own w6 b9 37 [.slice X xl.length xc, .bool false] from (hsame b9 (by simp)).trans HO95.out)
              have HN6 := Lib.hid (HN5.out.keep (hsame g' (by simp)))
              have HG6 : Hid (∀ x ∈ [g', b9], x < w6.heap.size) := fun x hx => Nat.lt_of_lt_of_le (HG5.out x hx) hsz
              have HRA := Lib.hid (pl_radd hp HG6.out H6.out hga.out (X, xc, xl) (HXR.out _ hp.low) HTk.out)
              simp only at HRA
              clear hp hsame hsz HA HJ5 HO95 HN5 HG5 h90 h91 q9 HR1
              have h90 := HO96.out.cell 0
              have h91 := HO96.out.cell 1
              have q9 := HO96.out.lt
              have h70 := HJ6.out.own.cell 0
              have h71 := HJ6.out.own.cell 1
              have q7 := HJ6.out.own.lt
              generalize hbo : addB a L xl = bo at HRA ⊢
              generalize hev : addE a L xl = ev at HRA ⊢
              clear hbo hev
              go_wp2_with fail
              with_reducible refine HRA.out.mono ?_
              rintro e w7 ⟨A2, n2, c2, rfl, hb7, hst⟩
              have ho7 := HJ6.out.own.below hb7
              have ks : Kept [bm] w7 ((w7.setCell ⟨bm, 0, none⟩ (.int .i64 a)).setCell ⟨bm, 1, none⟩ (.slice A2 n2 c2)) := ((Kept.refl [bm] w7).setCell (.inl (by simp)) (.int .i64 a)).setCell (.inl (by simp)) (.slice A2 n2 c2)
              have hJ7 := hst _ ks ho7.two
              have hnb : g' ≠ bm ∧ b9 ≠ bm := by
                obtain ⟨_, _, _, _, _, _, _, _, _, h8, _⟩ := HJ6.out
                exact ⟨(h8 g' (by simp)).2, (h8 b9 (by simp)).2⟩
              have hb8 : Below ((w7.setCell ⟨bm, 0, none⟩ (.int .i64 a)).setCell ⟨bm, 1, none⟩ (.slice A2 n2 c2)).heap.size ((w7.setCell ⟨bm, 0, none⟩ (.int .i64 a)).setCell ⟨bm, 1, none⟩ (.slice A2 n2 c2)) (((w7.setCell ⟨bm, 0, none⟩ (.int .i64 a)).setCell ⟨bm, 1, none⟩ (.slice A2 n2 c2)).alloc (.cells #[.int .i64 a, .slice A2 n2 c2] 33)) := (Below.refl _ _).alloc (Nat.le_refl _) _
              have HO98 := Lib.hid ((ks.own (HO96.out.below hb7) (by simpa using hnb.2)).below hb8)
              have HJ8 := Lib.hid (hJ7.below hb8)
              have hN7 : OwnN g' xl.length w7 := HN6.out.keep (hb7.block g' (HG6.out g' (by simp)))
              have hN8 : OwnN g' xl.length ((w7.setCell ⟨bm, 0, none⟩ (.int .i64 a)).setCell ⟨bm, 1, none⟩ (.slice A2 n2 c2)) := hN7.keep (ks.block g' (Nat.lt_of_lt_of_le (HG6.out g' (by simp)) hb7.size) (by simpa using hnb.1))
              have HN8 := Lib.hid (hN8.keep (hb8.block g' (Nat.lt_of_lt_of_le (HG6.out g' (by simp)) (Nat.le_trans hb7.size ks.size))))
              clear h90 h91 q9 h70 h71 q7 hst hJ7 hb7 hN7 hN8 ks hnb hb8 HJ6 HO96 HN6 HG6 HRA
              have h70 := ho7.cell 0
              have h71 := ho7.cell 1
              have f70 := ho7.frozen 0
              have f71 := ho7.frozen 1
              have q7 := ho7.lt
              clear ho7
              obtain ⟨w8, hw8⟩ : ∃ w8, w8 = (((w7.setCell ⟨bm, 0, none⟩ (.int .i64 a)).setCell ⟨bm, 1, none⟩ (.slice A2 n2 c2)).alloc (.cells #[.int .i64 a, .slice A2 n2 c2] 33)) := ⟨_, rfl⟩
              rw [← hw8] at HO98 HJ8 HN8
              have HW8 := Lib.hid hw8
              clear hw8
              have hxi : (xl.length : Int) ≤ 50 := by omega
              go_wp2_with fail
              go_loopw [90] (fun ix w9 => ∃ j : Nat, j ≤ xl.length ∧ ix = .int .i64 j ∧ Hid (OwnN g' xl.length w9) ∧ Hid (Kept [g'] w8 w9)) (fun ix _ => xl.length - (intOf ix).toNat)
              case atStart =>
                refine ⟨0, Nat.zero_le _, rfl, ?_, ?_⟩
                · rw [← HW8.out]; exact HN8.out
                · rw [← HW8.out]; exact Kept.refl _ _
              case round =>
                obtain ⟨j, hj, rfl, HNj, HKj⟩ := hrel
                clear h70 h71 f70 f71 q7
                by_cases hltj : j < xl.length
                · obtain ⟨z, n1, n2', n3, n4⟩ := HNj.out.at_ hltj
                  have HN4 := Lib.hid n4
                  have HK4 := Lib.hid (fun v => HKj.out.setCell (p := ⟨g', j * 3 + 1, none⟩) (.inl (by simp)) v)
                  clear n4
                  go_wp2
                  go_roundw
                  case rel => exact ⟨j + 1, by omega, by go_num, HN4.out _, HK4.out _⟩
                  case measure => simp [intOf]; omega
                · obtain rfl : j = xl.length := by omega
                  have HJ9 := Lib.hid (HJ8.out.loosen1 HKj.out (by simp) HGw.out)
                  have HO99 := Lib.hid (HKj.out.own HO98.out (by simpa using fun e => HNe.out e.symm))
                  obtain ⟨wz, rfl⟩ : ∃ wz : World, wz = wr := ⟨_, rfl⟩
                  have HDx := Lib.hid (Dx.of (W := wz) HO99.out HJ9.out.own (Below.refl _ wz))
                  have HPH := Lib.hid (fun W (hb : Below wz.heap.size wz W) => pl_rhas (HJ9.out.below hb) (X, xc, xl) (HXR.out _ (HJ9.out.low.trans (hb.mono HJ9.out.low.size))) HXL.out)
                  have HRH := Lib.hid (fun W (hb : Below wz.heap.size wz W) => pl_has (HJ9.out.below hb) (X, xc, xl) (HXR.out _ (HJ9.out.low.trans (hb.mono HJ9.out.low.size))) HXL.out)
                  simp only at HPH HRH
                  have h90 := HO99.out.cell 0
                  have h91 := HO99.out.cell 1
                  have q9 := HO99.out.lt
                  have h70 := HJ9.out.own.cell 0
                  have h71 := HJ9.out.own.cell 1
                  have q7 := HJ9.out.own.lt
                  generalize fndT (addL a L xl) xl = q at HPH HRH
                  have mixed : Try.prog.follows .mixedOrders = true := by kernel_rfl
                  clear HJ8 HO98 HN8 HNj HKj HW8
                  go_wp2_with fail
                  go_region_held3 (fun w' => w'.cell? ⟨b9, 0, none⟩ = some (.slice X xl.length xc) ∧ w'.cell? ⟨b9, 1, none⟩ = some (.bool false) ∧ w'.cell? ⟨bm, 0, none⟩ = some (.int .i64 a) ∧ w'.cell? ⟨bm, 1, none⟩ = some (.slice A2 n2 c2) ∧ b9 < w'.heap.size ∧ bm < w'.heap.size ∧ Below wz.heap.size wz w')
                    (first | (with_reducible assumption) | (with_reducible exact HDx.out.step (Below.refl _ _).drew) | (with_reducible exact Dx.step (by assumption) hb) | go_keep)
                    (first
                      | (go_at_call 17; (with_reducible refine (Num_any _ _).mono ?_); rintro e w' ⟨rfl, rfl⟩)
                      | (go_at_call 18; (with_reducible refine (HPH.out _ ?_).mono ?_); exact dx_below (by assumption); rintro e w' ⟨rfl, hb⟩)
                      | (go_at_call 13; (with_reducible refine (HRH.out _ ?_).mono ?_); exact dx_below (by assumption); rintro e w' ⟨rfl, hb⟩))
                  all_goals
                    have hD : Dx wz b9 bm (.slice X xl.length xc) (.bool false) a A2 n2 c2 w' := by assumption
                    have HJn : Hid (∃ L A0 nn c0, PlJ [] w br bm a L L A0 nn c0 w') := ⟨_, _, _, _, HJ9.out.below (dx_below hD)⟩
                    clear hD
                    go_wp2
                    go_roundw
                    case rel => exact ⟨k + 1, by omega, by go_num, HJn.out⟩
                    case measure => simp [intOf]; omega
        · obtain rfl : k = acts.length := by omega
          obtain ⟨wz, rfl⟩ : ∃ wz : World, wz = wr := ⟨_, rfl⟩
          have HC := Lib.hid (pl_copy HJ.out)
          go_wp2_with fail
          with_reducible refine HC.out.mono ?_
          rintro e w4 ⟨bc, tc, Sc, rfl, h1, h2, h3, h4⟩
          have HC0 : Hid (CpI wz bc a w4) := ⟨tc, Sc, h1, h2, h3, h4⟩
          clear h1 h2 h3 h4 HC
          go_wp2_with fail
          go_loopw [127] (fun ix w5 => ∃ k : Nat, k ≤ acts.length ∧ ix = .int .i64 k ∧ Hid (CpI wz bc a w5)) (fun ix _ => acts.length - (intOf ix).toNat)
          case atStart => exact ⟨0, Nat.zero_le _, rfl, HC0.out⟩
          case round =>
            obtain ⟨k, hk, rfl, HI⟩ := hrel
            by_cases hlt : k < acts.length
            · obtain ⟨g, o, rfl, qg, c1, c2, r1, r2, r3, r4⟩ := HX.out.at_ (HJ.out.low.trans (HI.out.low.mono HJ.out.low.size)) hlt
              generalize acts[k] = t at c1 c2 r1 r2 r3 r4
              obtain ⟨⟨X, xc, xl⟩, d⟩ := t
              change wr.cell? ⟨g, o + k * 2, none⟩ = some (.slice X xl.length xc) at c1
              simp only at c2 r1 r2 r3 r4
              have hbA : Below wr.heap.size wr (wr.alloc (.cells #[.slice X xl.length xc, .bool d] 37)) := (Below.refl _ wr).alloc (Nat.le_refl _) _
              have HD := Lib.hid (cp_drop (HI.out.below hbA) (X, xc, xl) (r1.below hbA) r4)
              clear hbA r1 r2 r3 r4 HI
              go_wp2_with fail
              with_reducible refine HD.out.mono ?_
              rintro e w6 ⟨r, rfl, hI⟩
              have HI := Lib.hid hI
              clear hI c1 c2 HD
              go_wp2
              go_roundw
              case rel => exact ⟨k + 1, by omega, by go_num, HI.out⟩
              case measure => simp [intOf]; omega
            · have HJ5 := Lib.hid (HJ.out.below HI.out.low)
              have h70 := HJ5.out.own.cell 0
              have h71 := HJ5.out.own.cell 1
              have q7 := HJ5.out.own.lt
              have HIs := Lib.hid (pl_is HJ5.out)
              have k2 := eql_nil
              go_wp2_with fail
              with_reducible refine HIs.out.mono ?_
              rintro e w6 ⟨rfl, hb6⟩
              have HF := Lib.hid (HJ5.out.low.trans (hb6.mono HJ5.out.low.size))
              clear hb6
              go_wp2
              go_ret
              exact ⟨rfl, HF.out⟩
end Go.Proofs.Ytdgjpikipkjhhaa
