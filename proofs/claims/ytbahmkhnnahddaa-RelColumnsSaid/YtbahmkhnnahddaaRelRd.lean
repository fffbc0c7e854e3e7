/- The document's relations: Add. Conditions: at most 2000 tuples. -/
import Derived.Test.YtbahmkhnnahddaaRelRc
namespace Go.Proofs.Ytbahmkhnnahddaa
open Go.RowKit Go.Deep Go.Shelf

/-- a call of the document's Add: the relation then, whether it is new, an error's number. -/
def RAddPost (S : List Nat) (w : World) (a : Int) (L : List (List V3)) (x : List V3) (e : Ending) (w' : World) : Prop :=
  ∃ m, e = .returned (.tuple #[m, .bool (addB a L x), .int .i64 (addE a L x)]) ∧ RefR S w' a m (addL a L x) ∧ Below w.heap.size w w'
theorem RAddPost.same {S : List Nat} {w w' : World} {a : Int} {m : Value} {L : List (List V3)} {x : List V3} {n : Int} (hm : RefR S w a m L) (hb : Below w.heap.size w w') (h1 : addB a L x = false) (h2 : addE a L x = n) : RAddPost S w a L x (.returned (.tuple #[m, .bool false, .int .i64 n])) w' :=
  ⟨m, by rw [h1, h2], by simpa [addL, h1] using hm.below hb, hb⟩
theorem set_two {w w0 : World} (hb : Below w.heap.size w w0) (u v : Value) : Below w.heap.size w ((w0.setCell ⟨w.heap.size + 1, 0, none⟩ u).setCell ⟨w.heap.size + 1, 1, none⟩ v) :=
  (hb.setCell (p := ⟨w.heap.size + 1, 0, none⟩) (by simp) u).setCell (p := ⟨w.heap.size + 1, 1, none⟩) (by simp) v

set_option maxRecDepth 100000 in
set_option maxHeartbeats 1000000 in
theorem refAdd_len (S : List Nat) (a : Int) (A : Option Addr) (c : Nat) (us : List TV) (x : TV) (w : World) (hm : RefR S w a (rv3 a A us.length c) (lists us)) (hne : ¬ ((x.2.2.length : Int) = a)) :
    Calls Try.prog 16 #[rv3 a A us.length c, tval x] w fun e w' => RAddPost S w a (lists us) x.2.2 e w' := by
  obtain ⟨X, xc, xl⟩ := x
  simp only at hne ⊢
  have hb : Below w.heap.size w ((w.alloc (.cells #[.int .i64 a, .slice A us.length c] 33)).alloc (.cells #[.int .i64 a, .slice A us.length c] 33)) := ((Below.refl _ w).alloc (Nat.le_refl _) _).alloc (by simp) _
  have hO : Own ((w.alloc (.cells #[.int .i64 a, .slice A us.length c] 33)).alloc (.cells #[.int .i64 a, .slice A us.length c] 33)) (w.heap.size + 1) 33 [.int .i64 a, .slice A us.length c] := by
    have h1 := heap_alloc_new (w.alloc (.cells #[.int .i64 a, .slice A us.length c] 33)) (.cells #[.int .i64 a, .slice A us.length c] 33)
    rw [World.size_alloc] at h1
    exact h1
  have HQ := Lib.hid (RAddPost.same (x := xl) (n := 6) hm hb (by simp [addB, hne]) (by simp [addE, hne]))
  have HO := Lib.hid hO
  clear hm hb hO
  go_enter Try.func16, Try.ntmps16
  go_wp2
  refine bodyPost_ret (v := .tuple #[rv3 a A us.length c, .bool false, .int .i64 6]) (by simp [results, Try.results16, go_sem, HO.out.cell 0, HO.out.cell 1]) rfl HQ.out

set_option maxRecDepth 100000 in
set_option maxHeartbeats 2000000 in
theorem refAdd_eq (S : List Nat) (a : Int) (A : Option Addr) (c : Nat) (us : List TV) (x : TV) (w : World) (hS : ∀ k ∈ S, k < w.heap.size) (hm : RefM S w a (rv3 a A us.length c) us) (hL : LOk (lists us)) (hn : us.length ≤ 2000) (hx : Row w x.1 x.2.2) (hxn : x.1 = none → x.2.1 = 0) (hxl : x.2.2.length ≤ 100) (hfit : Fit x.2.2) (ha : (x.2.2.length : Int) = a) :
    Calls Try.prog 16 #[rv3 a A us.length c, tval x] w fun e w' => RAddPost S w a (lists us) x.2.2 e w' := by
  obtain ⟨X, xc, xl⟩ := x
  simp only at hx hxn hxl hfit ha ⊢
  subst ha
  have hxl' : xl.length ≤ maxLen := by unfold maxLen; omega
  obtain ⟨h2, h4, hb⟩ := ref_start w xl.length A us.length c
  obtain ⟨w0, hw0⟩ : ∃ w0, w0 = refW w xl.length A us.length c := ⟨_, rfl⟩
  rw [← hw0] at h2 h4 hb
  have hR : RefR S w xl.length (rv3 xl.length A us.length c) (lists us) := ⟨us, hm, rfl⟩
  have HM := Lib.hid hm
  have HB := Lib.hid hb
  have HL := Lib.hid hL
  have HX := Lib.hid hx
  have HXn := Lib.hid hxn
  have HSS := Lib.hid hS
  have HQ := Lib.hid (fun n (h1 : addB xl.length (lists us) xl = false) (h2 : addE xl.length (lists us) xl = n) w' (h : Below w.heap.size w w') => RAddPost.same (x := xl) hR h h1 h2)
  have HW : Hid (w0 = (w.alloc (.cells #[.int .i64 xl.length, .slice A us.length c] 33)).alloc (.cells #[.int .i64 0, .slice none 0 0] 33)) := hw0
  have HR := Lib.hid (refTRight_any X xc xl hxl' hfit w0 (hx.below hb))
  have H2 := Lib.hid h2
  have H4 := Lib.hid h4
  have h20 := h2.cell 0
  have h21 := h2.cell 1
  have q2 := h2.lt
  clear hm hw0 hb h2 h4 hx hxn hL hfit hS hR
  go_enter Try.func16, Try.ntmps16
  go_wp2_with fail
  rw [← HW.out]
  go_wp2_with fail
  refine HR.out.mono ?_
  rintro e w1 ⟨rfl, b1⟩
  have H2 := Lib.hid (H2.out.below b1)
  have H4 := Lib.hid (H4.out.below b1)
  have B1 := Lib.hid (HB.out.trans (b1.mono HB.out.size))
  clear b1 h20 h21 q2 HR
  have h20 := H2.out.cell 0
  have h21 := H2.out.cell 1
  have q2 := H2.out.lt
  cases hr : rightT xl with
  | false =>
    have HP := Lib.hid (HQ.out 2 (by simp [addB, hr]) (by simp [addE, hr]))
    have h40 := H4.out.cell 0
    have h41 := H4.out.cell 1
    have f40 := H4.out.frozen 0
    have f41 := H4.out.frozen 1
    have q4 := H4.out.lt
    clear hr HQ
    go_wp2
    have hO := H4.out.two (u := .int .i64 xl.length) (v := .slice A us.length c)
    refine bodyPost_ret (v := .tuple #[rv3 xl.length A us.length c, .bool false, .int .i64 2]) (by simp [results, Try.results16, go_sem, hO.cell 0, hO.cell 1]) rfl (HP.out _ (set_two B1.out _ _))
  | true =>
    have HRt := Lib.hid hr
    have HH := Lib.hid (refHas_any xl.length _ us (X, xc, xl) w1 (HM.out.below B1.out).nil' HL.out.fits (by omega) (HX.out.below B1.out) hxl')
    clear hr
    simp only at HH
    go_wp2_with fail
    refine HH.out.mono ?_
    rintro e w2 ⟨rfl, b2⟩
    have H2 := Lib.hid (H2.out.below b2)
    have H4 := Lib.hid (H4.out.below b2)
    have B2 := Lib.hid (B1.out.trans (b2.mono B1.out.size))
    clear b2 h20 h21 q2 HH
    have h20 := H2.out.cell 0
    have h21 := H2.out.cell 1
    have q2 := H2.out.lt
    cases hf : fndT (lists us) xl with
    | true =>
      have HP := Lib.hid (HQ.out 0 (by simp [addB, hf]) (by simp [addE, hf, HRt.out]))
      have h40 := H4.out.cell 0
      have h41 := H4.out.cell 1
      have f40 := H4.out.frozen 0
      have f41 := H4.out.frozen 1
      have q4 := H4.out.lt
      clear hf HQ
      go_wp2
      have hO := H4.out.two (u := .int .i64 xl.length) (v := .slice A us.length c)
      refine bodyPost_ret (v := .tuple #[rv3 xl.length A us.length c, .bool false, .int .i64 0]) (by simp [results, Try.results16, go_sem, hO.cell 0, hO.cell 1]) rfl (HP.out _ (set_two B2.out _ _))
    | false =>
      have HF := Lib.hid hf
      clear hf
      by_cases hful : us.length = 2000
      · have HP := Lib.hid (HQ.out 11 (by simp [addB, hful]) (by simp [addE, HF.out, HRt.out, hful]))
        have h40 := H4.out.cell 0
        have h41 := H4.out.cell 1
        have f40 := H4.out.frozen 0
        have f41 := H4.out.frozen 1
        have q4 := H4.out.lt
        have hfi : ((us.length : Int) == 2000) = true := by simp; omega
        clear HQ hful
        go_wp2
        have hO := H4.out.two (u := .int .i64 xl.length) (v := .slice A us.length c)
        refine bodyPost_ret (v := .tuple #[rv3 xl.length A us.length c, .bool false, .int .i64 11]) (by simp [results, Try.results16, go_sem, hO.cell 0, hO.cell 1]) rfl (HP.out _ (set_two B2.out _ _))
      · have hfi : ((us.length : Int) == 2000) = false := by simp; omega
        have HPu := Lib.hid (refPut_any ((w.heap.size + 1) :: S) xl.length _ (lists us) (X, xc, xl) w2 (fun k hk => by
          rcases List.mem_cons.1 hk with rfl | hk
          · exact H4.out.lt
          · exact Nat.lt_of_lt_of_le (HSS.out k hk) B2.out.size) ⟨us, HM.out.kept (Kept.of S B2.out) (fun k hk => by
          rcases List.mem_cons.1 hk with rfl | hk
          · exact .inr (Nat.le_succ _)
          · exact .inl hk), rfl⟩ HL.out (by simp; omega) (HX.out.below B2.out) HXn.out hxl)
        simp only at HPu
        have e1 : Hid (putT (lists us) xl = addL xl.length (lists us) xl ∧ addB xl.length (lists us) xl = true ∧ addE xl.length (lists us) xl = 0) := by
          have : us.length < 2000 := by omega
          have h1 : addB xl.length (lists us) xl = true := by simp [addB, HF.out, HRt.out, this]
          refine ⟨by simp [putT, addL, h1, HF.out], h1, addE_ok h1⟩
        clear HQ hful
        go_wp2_with fail
        refine HPu.out.mono ?_
        rintro e w3 ⟨m', rfl, hm', b3⟩
        obtain ⟨us', ⟨A', c', rfl, hA'⟩, hl'⟩ := hm'
        have hm' : RefR ((w.heap.size + 1) :: S) w3 xl.length (rv3 xl.length A' us'.length c') (putT (lists us) xl) := ⟨us', ⟨A', c', rfl, hA'⟩, hl'⟩
        have HM' := Lib.hid hm'
        have B3 := Lib.hid (B2.out.trans (b3.mono B2.out.size))
        have H4 := Lib.hid (H4.out.below b3)
        clear hm' hA' hl' b3 h20 h21 q2
        have h40 := H4.out.cell 0
        have h41 := H4.out.cell 1
        have f40 := H4.out.frozen 0
        have f41 := H4.out.frozen 1
        have q4 := H4.out.lt
        go_wp2
        have hO := H4.out.two (u := .int .i64 xl.length) (v := .slice A' us'.length c')
        refine bodyPost_ret (v := .tuple #[rv3 xl.length A' us'.length c', .bool true, .int .i64 0]) (by simp [results, Try.results16, go_sem, hO.cell 0, hO.cell 1]) rfl ?_
        have hb4 := set_two B3.out (.int .i64 xl.length) (.slice A' us'.length c')
        have hk4 : Kept ((w.heap.size + 1) :: S) w3 ((w3.setCell ⟨w.heap.size + 1, 0, none⟩ (.int .i64 xl.length)).setCell ⟨w.heap.size + 1, 1, none⟩ (.slice A' us'.length c')) := ((Kept.refl _ w3).setCell (.inl (by simp)) _).setCell (.inl (by simp)) _
        refine ⟨_, by rw [e1.out.2.1, e1.out.2.2], ?_, hb4⟩
        rw [← e1.out.1]
        exact HM'.out.kept hk4 (fun k hk => .inl (List.mem_cons_of_mem _ hk))

theorem refAdd_any (S : List Nat) (a : Int) (m : Value) (L : List (List V3)) (x : TV) (w : World) (hS : ∀ k ∈ S, k < w.heap.size) (hm : RefR S w a m L) (hL : LOk L) (hn : L.length ≤ 2000) (hx : Row w x.1 x.2.2) (hxn : x.1 = none → x.2.1 = 0) (hxl : x.2.2.length ≤ 100) (hfit : Fit x.2.2) :
    Calls Try.prog 16 #[m, tval x] w fun e w' => RAddPost S w a L x.2.2 e w' := by
  obtain ⟨us, hm, rfl⟩ := hm
  have HM := hm
  have hn' : us.length ≤ 2000 := by simpa using hn
  obtain ⟨A, c, rfl, _⟩ := hm
  by_cases ha : (x.2.2.length : Int) = a
  · exact refAdd_eq S a A c us x w hS HM hL hn' hx hxn hxl hfit ha
  · exact refAdd_len S a A c us x w ⟨us, HM, rfl⟩ ha
end Go.Proofs.Ytbahmkhnnahddaa
