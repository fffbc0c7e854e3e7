/- The document's relations: Put on none, and on any. Conditions: at most 4000 tuples. -/
import Derived.Test.YtbahmkhnnahddaaRelRb
namespace Go.Proofs.Ytbahmkhnnahddaa
open Go.RowKit Go.Deep Go.Shelf

set_option maxRecDepth 100000 in
set_option maxHeartbeats 2000000 in
theorem refPut_nil (S : List Nat) (a : Int) (x : TV) (w : World) (hS : ∀ k ∈ S, k < w.heap.size) (hx : Row w x.1 x.2.2) (hxn : x.1 = none → x.2.1 = 0) (hxl : x.2.2.length ≤ 100) :
    Calls Try.prog 46 #[rv3 a none 0 0, tval x] w fun e w' => RefPost S w a (insT [] x.2.2) e w' := by
  obtain ⟨X, xc, xl⟩ := x
  simp only at hxn hxl hx
  have hm : RefM [] w a (rv3 a none 0 0) [] := ⟨none, 0, rfl, (fun _ => rfl), Nat.le_refl _, Lst.nil _ _ _, (fun t h => by cases h), .inl rfl⟩
  have hxl' : xl.length ≤ maxLen := by unfold maxLen; omega
  obtain ⟨h2, h4, hb⟩ := ref_start w a none 0 0
  obtain ⟨w0, hw0⟩ : ∃ w0, w0 = refW w a none 0 0 := ⟨_, rfl⟩
  rw [← hw0] at h2 h4 hb
  have HH := Lib.hid (refHas_any a _ [] (X, xc, xl) w0 (hm.below hb) (fun t h => by cases h) (Nat.zero_le _) (hx.below hb) hxl')
  have hh : fndT (lists []) xl = false := rfl
  rw [hh] at HH
  have HB := Lib.hid hb
  have HW : Hid (w0 = (w.alloc (.cells #[.int .i64 a, .slice none 0 0] 33)).alloc (.cells #[.int .i64 0, .slice none 0 0] 33)) := hw0
  have H2 := Lib.hid h2
  have H4 := Lib.hid h4
  have HX := Lib.hid hx
  have HSS := Lib.hid hS
  have HXn := Lib.hid hxn
  have h20 := h2.cell 0
  have h21 := h2.cell 1
  have q2 := h2.lt
  clear hx hh hw0 hb h2 h4 hS hxn hm
  go_enter Try.func46, Try.ntmps46
  go_wp2_with fail
  rw [← HW.out]
  refine HH.out.mono ?_
  rintro e w1 ⟨rfl, b1⟩
  have H2 := Lib.hid (H2.out.below b1)
  have H4 := Lib.hid (H4.out.below b1)
  have B1 := Lib.hid (HB.out.trans (b1.mono HB.out.size))
  clear b1 h20 h21 q2 HB HH
  go_wp2_with fail
  go_loopw [5] (fun ix wr => ix = .int .i64 0 ∧ Hid (Below w1.heap.size w1 wr)) (fun _ _ => 0)
  case atStart => exact ⟨rfl, Below.refl _ _⟩
  case round =>
    obtain ⟨rfl, HBr⟩ := hrel
    have BZ := Lib.hid (B1.out.trans (HBr.out.mono B1.out.size))
    have H2Z := Lib.hid (H2.out.below HBr.out)
    have H4Z := Lib.hid (H4.out.below HBr.out)
    clear HBr B1
    have hln : Lst S w none [] := Lst.nil _ _ _
    obtain ⟨v1, wB, A', c', wD, v2, wF, g3, cap3, wG, hr1, hr2, hr3, hr4, ho2, ho2G, ho4, HQ⟩ := put_tail S a none none 0 0 0 [] X xc xl w wr HSS.out (Nat.zero_le _) (Nat.zero_le _) rfl (fun _ => rfl) (fun _ => rfl) hln hln (fun t h => by cases h) HXn.out HX.out hxl BZ.out H2Z.out H4Z.out
    have HR1 := Lib.hid hr1
    have HR2 := Lib.hid hr2
    have HR3 := Lib.hid hr3
    have HR4 := Lib.hid hr4
    have h20 := H2Z.out.cell 0
    have h21 := H2Z.out.cell 1
    have q2 := H2Z.out.lt
    have h20F := ho2.cell 0
    have h21F := ho2.cell 1
    have q2F := ho2.lt
    have h20G := ho2G.cell 0
    have h21G := ho2G.cell 1
    have q2G := ho2G.lt
    have h40G := ho4.cell 0
    have h41G := ho4.cell 1
    have f40G := ho4.frozen 0
    have f41G := ho4.frozen 1
    have q4G := ho4.lt
    have HO4 := Lib.hid ho4
    have mixed : Try.prog.follows .mixedOrders = true := by kernel_rfl
    clear hr1 hr2 hr3 hr4 hln ho2 ho2G ho4
    go_wp2_with (first
      | (at_builtin; refine Lib.wpList_append_run _ rfl _ _ _ _ rfl _ _ rfl rfl _ _ HR1.out ?_)
      | (at_builtin; refine Lib.wpList_append_run _ rfl _ _ _ _ rfl _ _ rfl rfl _ _ HR2.out ?_)
      | (at_builtin; refine Lib.wpList_append_run _ rfl _ _ _ _ rfl _ _ rfl rfl _ _ HR3.out ?_))
    go_region_law_o (refine step_append_runR rfl _ _ 31 31 rfl v2 (.slice none 0 0) (by simp [Act.eval, Act.put]) (by simp [Act.eval, Act.put]) HR4.out ?_)
    all_goals
      go_wp2
      have hO := HO4.out.two (u := .int .i64 a) (v := .slice (some ⟨g3, 0, none⟩) 1 cap3)
      refine bodyPost_ret (v := rv3 a (some ⟨g3, 0, none⟩) 1 cap3) (by simp [results, Try.results46, go_sem, hO.cell 0, hO.cell 1]) rfl HQ.out

/-- lists as the document's relations hold them. -/
def LOk (L : List (List V3)) : Prop := Sor L ∧ ∀ l ∈ L, l.length ≤ 100
theorem LOk.fits {us : List TV} (h : LOk (lists us)) : Fits us := fun t ht => by
  have := h.2 t.2.2 (List.mem_map_of_mem ht)
  unfold maxLen; omega
theorem LOk.nil : LOk [] := ⟨List.Pairwise.nil, fun l h => by cases h⟩
theorem LOk.put {L : List (List V3)} (h : LOk L) {x : List V3} (hx : x.length ≤ 100) : LOk (putT L x) := by
  unfold putT
  by_cases hf : fndT L x = true
  · rw [if_pos hf]; exact h
  · rw [if_neg hf]
    refine ⟨insT_sor h.1 (fnd_not.1 (by simpa using hf)), fun l hl => ?_⟩
    rcases insT_mem.1 hl with rfl | hl
    · exact hx
    · exact h.2 l hl
theorem putT_len (L : List (List V3)) (x : List V3) : (putT L x).length ≤ L.length + 1 := by
  unfold putT
  split
  · omega
  · rw [insT_len]; exact Nat.le_refl _

/-- a document's relation in memory, with these lists. -/
def RefR (S : List Nat) (w : World) (a : Int) (m : Value) (L : List (List V3)) : Prop := ∃ us, RefM S w a m us ∧ lists us = L
theorem RefR.kept {S S' : List Nat} {w w' : World} {a : Int} {m : Value} {L : List (List V3)} (h : RefR S w a m L) (hk : Kept S w w') (hs : Sub S' S w.heap.size) : RefR S' w' a m L := by
  obtain ⟨us, h1, h2⟩ := h
  exact ⟨us, h1.kept hk hs, h2⟩
theorem RefR.below {S : List Nat} {w w' : World} {a : Int} {m : Value} {L : List (List V3)} (h : RefR S w a m L) (hb : Below w.heap.size w w') : RefR S w' a m L := h.kept (Kept.of S hb) (Sub.refl _ _)
def RefGot (S : List Nat) (w : World) (a : Int) (L : List (List V3)) (e : Ending) (w' : World) : Prop :=
  ∃ m, e = .returned m ∧ RefR S w' a m L ∧ Below w.heap.size w w'

theorem refPut_any (S : List Nat) (a : Int) (m : Value) (L : List (List V3)) (x : TV) (w : World) (hS : ∀ k ∈ S, k < w.heap.size) (hm : RefR S w a m L) (hL : LOk L) (hn : L.length ≤ 4000) (hx : Row w x.1 x.2.2) (hxn : x.1 = none → x.2.1 = 0) (hxl : x.2.2.length ≤ 100) :
    Calls Try.prog 46 #[m, tval x] w fun e w' => RefGot S w a (putT L x.2.2) e w' := by
  obtain ⟨us, hm, rfl⟩ := hm
  have hxl' : x.2.2.length ≤ maxLen := by unfold maxLen; omega
  have hn' : us.length ≤ 4000 := by simpa using hn
  have key : ∀ {M : List (List V3)} {e : Ending} {w' : World}, RefPost S w a M e w' → RefGot S w a M e w' := fun h => by
    obtain ⟨m', us', h1, h2, h3, h4⟩ := h
    exact ⟨m', h1, ⟨us', h2, h3⟩, h4⟩
  unfold putT
  by_cases hf : fndT (lists us) x.2.2 = true
  · rw [if_pos hf]
    exact (refPut_has S a m us x w hm hL.fits hn' hx hxl' hf).mono fun _ _ h => key h
  · rw [if_neg hf]
    have hf : fndT (lists us) x.2.2 = false := by simpa using hf
    have HM := hm
    obtain ⟨A, c, rfl, hA, hc, hl, hun, rfl | ⟨g, o, rfl⟩⟩ := hm
    · obtain rfl : us = [] := by
        cases us with
        | nil => rfl
        | cons t r => obtain ⟨b, o, h, _⟩ := hl.1 (by simp); cases h
      obtain rfl := hA rfl
      exact (refPut_nil S a x w hS hx hxn hxl).mono fun _ _ h => key h
    · exact (refPut_some S a g o c us x w hS HM hc hl hun hL.1 hL.fits hn' hx hxn hxl hf).mono fun _ _ h => key h
end Go.Proofs.Ytbahmkhnnahddaa
