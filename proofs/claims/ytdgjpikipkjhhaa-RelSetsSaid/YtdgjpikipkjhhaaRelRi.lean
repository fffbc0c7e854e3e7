/- The document's relations: Both. Conditions: at most 2000 tuples. -/
import Derived.Test.YtdgjpikipkjhhaaRelRh
import Derived.Deep.RegionHeld3
namespace Go.Proofs.Ytdgjpikipkjhhaa
open Go.RowKit Go.Deep Go.Shelf

theorem both_done {S : List Nat} {w w2 : World} {a : Int} {L : List (List V3)} {A : Option Addr} {c nn : Nat} (h2 : RefR ((w.heap.size + 2) :: S) w2 a (rv3 a A nn c) L) (h5 : Below w.heap.size w w2) :
    RefGot S w a L (.returned (rv3 a A nn c)) ((w2.setCell ⟨w.heap.size + 2, 0, none⟩ (.int .i64 a)).setCell ⟨w.heap.size + 2, 1, none⟩ (.slice A nn c)) :=
  ⟨_, rfl, h2.kept ((((Kept.refl _ w2).setCell (.inl (by simp)) _).setCell (.inl (by simp)) _)) (fun k hk => .inl (by simp [hk])), (h5.setCell (by simp) _).setCell (by simp) _⟩

/-- the two boxes, and the result's. -/
abbrev Bo (W : World) (g : Nat) (a a' : Int) (A A' : Option Addr) (n c n' c' : Nat) (w : World) : Prop :=
  w.cell? ⟨g, 0, none⟩ = some (.int .i64 a) ∧ w.cell? ⟨g, 1, none⟩ = some (.slice A n c) ∧ w.cell? ⟨g + 1, 0, none⟩ = some (.int .i64 a') ∧ w.cell? ⟨g + 1, 1, none⟩ = some (.slice A' n' c') ∧ g + 2 < w.heap.size ∧ Below W.heap.size W w
section
variable {W w w' : World} {g : Nat} {a a' : Int} {A A' : Option Addr} {n c n' c' : Nat}
theorem Bo.keep (h : Bo W g a a' A A' n c n' c' w) (hk : Kept [g + 2] w w') (hg : W.heap.size ≤ g) : Bo W g a a' A A' n c n' c' w' := by
  obtain ⟨h1, h2, h3, h4, h5, h6⟩ := h
  exact ⟨(hk.cell (p := ⟨g, 0, none⟩) (show g < _ by omega) (by simp)).trans h1, (hk.cell (p := ⟨g, 1, none⟩) (show g < _ by omega) (by simp)).trans h2, (hk.cell (p := ⟨g + 1, 0, none⟩) (show g + 1 < _ by omega) (by simp)).trans h3, (hk.cell (p := ⟨g + 1, 1, none⟩) (show g + 1 < _ by omega) (by simp)).trans h4,
    Nat.lt_of_lt_of_le h5 hk.size, h6.trans (hk.below h6.size (fun k hk => by simp only [List.mem_singleton] at hk; omega))⟩
theorem Bo.step (h : Bo W W.heap.size a a' A A' n c n' c' w) (hb : Below w.heap.size w w') : Bo W W.heap.size a a' A A' n c n' c' w' := h.keep (Kept.of _ hb) (Nat.le_refl _)
theorem bo_below (h : Bo W g a a' A A' n c n' c' w) : Below W.heap.size W w := h.2.2.2.2.2
theorem bo_lt (h : Bo W g a a' A A' n c n' c' w) : g + 2 < w.heap.size := h.2.2.2.2.1
theorem Bo.set {u v : Value} (h : Bo W W.heap.size a a' A A' n c n' c' w) : Bo W W.heap.size a a' A A' n c n' c' ((w.setCell ⟨W.heap.size + 2, 0, none⟩ u).setCell ⟨W.heap.size + 2, 1, none⟩ v) :=
  h.keep (((Kept.refl _ w).setCell (.inl (by simp)) _).setCell (.inl (by simp)) _) (Nat.le_refl _)
end

set_option maxRecDepth 100000 in
set_option maxHeartbeats 4000000 in
theorem refBoth_any (S : List Nat) (a a' : Int) (m m' : Value) (L M : List (List V3)) (w : World) (hS : ∀ k ∈ S, k < w.heap.size) (hm : RefR S w a m L) (hm' : RefR [] w a' m' M) (hf : ∀ l ∈ L, l.length ≤ 100) (hf' : ∀ l ∈ M, l.length ≤ 100) (hn : L.length ≤ 2000) (hn' : M.length ≤ 2000) :
    Calls Try.prog 29 #[m, m'] w fun e w' => RefGot S w a ((M.foldl delT L).foldl delT L) e w' := by
  obtain ⟨A, c, rfl⟩ := hm.form
  obtain ⟨A', c', rfl⟩ := hm'.form
  obtain ⟨A0, c0, n0, i1, i2, i3, i4, i5⟩ := acc_start (a' := a') (B := .slice A' M.length c') hm
  obtain ⟨w0, hw0⟩ : ∃ w0, w0 = accW w a a' (.slice A L.length c) (.slice A' M.length c') := ⟨_, rfl⟩
  rw [← hw0] at i3 i4 i5
  have i1 : Own w0 w.heap.size 33 [.int .i64 a, .slice A L.length c] := by
    have h1 : Own (w.alloc (.cells #[.int .i64 a, .slice A L.length c] 33)) w.heap.size 33 [.int .i64 a, .slice A L.length c] := heap_alloc_new w _
    rw [hw0]
    exact (h1.alloc _).alloc _
  have HW : Hid (w0 = ((w.alloc (.cells #[.int .i64 a, .slice A L.length c] 33)).alloc (.cells #[.int .i64 a', .slice A' M.length c'] 33)).alloc (.cells #[.int .i64 0, .slice none 0 0] 33)) := hw0
  have hle := delF_le M L
  have HA := Lib.hid (fun W (hb : Below w.heap.size w W) => refMinus_any [] a a' _ _ L M W (fun k h => by cases h) ((hm.below hb).kept (Kept.refl S _) (fun k h => by cases h)) (hm'.below hb) hf hf' (by omega) (by omega))
  have HA2 : Hid (∀ w1 d, Below w.heap.size w w1 → w.heap.size + 2 < w1.heap.size → RefR [] w1 a d (M.foldl delT L) → Calls Try.prog 28 #[rv3 a A L.length c, d] w1 fun e w' => RefGot ((w.heap.size + 2) :: S) w1 a ((M.foldl delT L).foldl delT L) e w') := fun w1 d hb h2 hd =>
    refMinus_any _ a a _ _ L _ w1 (fun k hk => by
      rcases List.mem_cons.1 hk with rfl | hk
      · omega
      · have := hS k hk; omega) (hm.kept (Kept.of S hb) (fun k hk => by
      rcases List.mem_cons.1 hk with rfl | hk
      · exact .inr (Nat.le_add_right _ _)
      · exact .inl hk)) hd hf (fun l hl => hf l (hle.2 l hl)) (by omega) (by omega)
  have HO4 := Lib.hid (i4.below (Below.refl _ w0).drew)
  have HB := Lib.hid i5
  have HS0 := Lib.hid (show Bo w w.heap.size a a' A A' L.length c M.length c' w0 from ⟨i1.cell 0, i1.cell 1, i3.cell 0, i3.cell 1, i4.lt, i5⟩)
  have mixed : Try.prog.follows .mixedOrders = true := by kernel_rfl
  clear i1 i2 i3 i4 i5 hm hm' hS hf hf' hle hw0
  generalize (M.foldl delT L).foldl delT L = D2 at HA2 ⊢
  generalize M.foldl delT L = D1 at HA HA2
  obtain ⟨nl, hnl⟩ : ∃ nl, L.length = nl := ⟨_, rfl⟩
  obtain ⟨nm, hnm⟩ : ∃ nm, M.length = nm := ⟨_, rfl⟩
  rw [hnl] at HA HA2 HW HS0
  rw [hnm] at HA HW HS0
  rw [hnl, hnm]
  clear hnl hnm hn hn'
  go_enter Try.func29, Try.ntmps29
  go_wp2_with fail
  rw [← HW.out]
  go_region_held3 (fun w' => w'.cell? ⟨w.heap.size, 0, none⟩ = some (.int .i64 a) ∧ w'.cell? ⟨w.heap.size, 1, none⟩ = some (.slice A nl c) ∧ w'.cell? ⟨w.heap.size + 1, 0, none⟩ = some (.int .i64 a') ∧ w'.cell? ⟨w.heap.size + 1, 1, none⟩ = some (.slice A' nm c') ∧ w.heap.size + 2 < w'.heap.size ∧ Below w.heap.size w w')
    (first | (with_reducible assumption) | (with_reducible exact Bo.set (by assumption)) | (with_reducible exact HS0.out.step (Below.refl _ _).drew) | (with_reducible exact Bo.step (by assumption) hb) | go_keep)
    (first
      | (go_at_call 28; refine (HA2.out _ _ ?_ ?_ HD.out).mono ?_; exact bo_below (by assumption); exact bo_lt (by assumption); rintro e w' ⟨m2, rfl, hm2, hb⟩; obtain ⟨A2, c2, rfl⟩ := hm2.form; have hw2 : Below w.heap.size w w' := (bo_below (by assumption)).trans (hb.mono (bo_below (by assumption)).size); have j4 := HO4.out.below hb; have HQ := Lib.hid (both_done hm2 hw2); have HO := Lib.hid (j4.two (u := .int .i64 a) (v := .slice A2 D2.length c2)); have h40 := j4.cell 0; have h41 := j4.cell 1; have f40 := j4.frozen 0; have f41 := j4.frozen 1; have q4 := j4.lt; clear j4 hm2 hw2)
      | (go_at_call 28; refine (HA.out _ ?_).mono ?_; exact bo_below (by assumption); rintro e w' ⟨d, rfl, hd, hb⟩; have HD := Lib.hid hd; have HO4 := Lib.hid (HO4.out.below hb); clear hd))
  all_goals
    go_wp2
    refine bodyPost_ret (v := rv3 a A2 D2.length c2) (by simp [results, Try.results29, go_sem, HO.out.cell 0, HO.out.cell 1]) rfl HQ.out
end Go.Proofs.Ytdgjpikipkjhhaa
