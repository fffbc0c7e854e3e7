/- Of, alike, Minus, Both, Union, Same. Conditions: texts no longer than Go's longest, tuples of at most 50 values. -/
import Derived.Test.YtbahmkhnnahddaaRelV
import Derived.BigQuiet
namespace Go.Proofs.Ytbahmkhnnahddaa
open Go.RowKit Go.Deep Go.Shelf

theorem allL_good {a : Int} : ∀ (xs : List (List V3)) {L : List (List V3)}, Good a L → Good a (allL a L xs)
  | [], _, h => h
  | x :: r, L, h => by
    unfold allL
    split
    · exact allL_good r (h.add x)
    · exact h
theorem right_small {x : V3} (h : isRight x.1 x.2.1 x.2.2 = true) : x.2.2.size ≤ maxLen := by
  have hs : x.2.2.size = x.2.2.data.toList.length := by rw [Array.length_toList]; rfl
  unfold isRight at h
  split at h
  · simp only [Bool.and_eq_true, List.isEmpty_iff] at h
    rw [hs, h.1]
    exact Nat.zero_le _
  · split at h
    · simp only [Bool.and_eq_true] at h
      have h2 := h.2
      rw [hs]
      simp only [isName, Bool.and_eq_true, decide_eq_true_eq] at h2
      have := h2.1.2
      unfold maxLen
      omega
    · cases h
theorem Good.nil (a : Int) : Good a [] := ⟨(fun _ h => by cases h), List.Pairwise.nil, Nat.zero_le _⟩
def ofE (a : Int) (xs : List (List V3)) : Int := if a < 0 ∨ 6 < a then 6 else allE a [] xs
def ofL (a : Int) (xs : List (List V3)) : List (List V3) := allL a [] xs
theorem ofL_good (a : Int) (xs : List (List V3)) : Good a (ofL a xs) := allL_good xs (Good.nil a)
/-- a new relation and no error, or none and an error. -/
def RelErr (w : World) (a : Int) (L : List (List V3)) (n : Int) (e : Ending) (w' : World) : Prop :=
  (n = 0 ∧ ∃ b', e = .returned (.tuple #[rp b', .nilIface]) ∧ NewRel w a L b' w') ∨ (n ≠ 0 ∧ e = .returned (.tuple #[.pointer none, eno n]) ∧ Below w.heap.size w w')

set_option maxRecDepth 100000 in
set_option maxHeartbeats 400000 in
theorem Of_any (a : Int) (A : Option Addr) (c : Nat) (xs : List TV) (w : World) (hl : Lst [] w A xs) (ht : ∀ x ∈ xs, Tok x) (hn : xs.length ≤ maxLen) :
    Calls Try.prog 22 #[.int .i64 a, .slice A xs.length c] w fun e w' => RelErr w a (ofL a (lists xs)) (ofE a (lists xs)) e w' := by
  by_cases hb : a < 0 ∨ 6 < a
  · have HN := Lib.hid (New_bad a w hb)
    have HQ : Hid (RelErr w a (ofL a (lists xs)) (ofE a (lists xs)) (.returned (.tuple #[.pointer none, eno 6])) w) := .inr ⟨by simp [ofE, hb], by simp [ofE, hb], Below.refl _ _⟩
    have k1 := neq_eno 6
    clear hl ht hn hb
    go_enter Try.func22, Try.ntmps22
    go_wp2_with fail
    refine HN.out.mono ?_
    rintro e w1 ⟨rfl, rfl⟩
    go_wp2
    refine bodyPost_ret (v := .tuple #[.pointer none, eno 6]) (by simp [results, Try.results22, go_sem]) rfl ?_
    exact HQ.out
  · have hb0 : 0 ≤ a := by omega
    have hb6 : a ≤ 6 := by omega
    have HN := Lib.hid (New_ok a w hb0 hb6)
    have HL := Lib.hid hl
    have HT := Lib.hid ht
    have HE : Hid (ofE a (lists xs) = allE a [] (lists xs)) := by show _ = _; simp [ofE, hb]
    clear hl ht hb
    go_enter Try.func22, Try.ntmps22
    go_wp2_with fail
    refine HN.out.mono ?_
    rintro e w1 ⟨rfl, hr1, b1⟩
    have HA := Lib.hid (addAll_any w.heap.size a [] [w.heap.size] A c xs w1 hr1 (Good.nil a) (HL.out.kept (Kept.of [] b1) (fun k hk => .inr (by simp only [List.mem_singleton] at hk; omega))) HT.out hn)
    have HB := Lib.hid b1
    clear hr1 b1
    have k1 := neq_nil
    go_wp2_with fail
    refine HA.out.mono ?_
    rintro e w2 ⟨ts', S', rfl, hr2, hl2, hk2, hs2⟩
    have hb2 : Below w.heap.size w w2 := HB.out.trans (hk2.below HB.out.size (fun k hk => by simp only [List.mem_singleton] at hk; omega))
    have hnew : ∀ k ∈ S', w.heap.size ≤ k := fun k hk => by
      rcases hs2 k hk with h | h
      · simp only [List.mem_singleton] at h; omega
      · exact Nat.le_trans HB.out.size h
    have HR := Lib.hid hr2
    have HL2 := Lib.hid hl2
    have HB2 := Lib.hid hb2
    have HN2 := Lib.hid hnew
    clear hr2 hl2 hk2 hs2 hb2 hnew k1
    have hnil : lists ([] : List TV) = [] := rfl
    rw [hnil] at HL2 ⊢
    by_cases h0 : allE a [] (lists xs) = 0
    · have HQ : Hid (RelErr w a (ofL a (lists xs)) (ofE a (lists xs)) (.returned (.tuple #[rp w.heap.size, .nilIface])) w2) := .inl ⟨HE.out.trans h0, _, rfl, ts', S', HR.out, HL2.out, HN2.out, HB2.out⟩
      rw [h0, err0]
      have k1 := neq_nil
      clear HR HL2 HB2 HN2 h0 HE hnil
      go_wp2
      refine bodyPost_ret (v := .tuple #[rp w.heap.size, .nilIface]) (by simp [results, Try.results22, go_sem]) rfl ?_
      exact HQ.out
    · have HQ : Hid (RelErr w a (ofL a (lists xs)) (ofE a (lists xs)) (.returned (.tuple #[.pointer none, eno (allE a [] (lists xs))])) w2) := .inr ⟨by rw [HE.out]; exact h0, by rw [HE.out], HB2.out⟩
      rw [err_eno h0]
      have k1 := neq_eno (allE a [] (lists xs))
      clear HR HL2 HB2 HN2 h0 HE hnil
      generalize allE a [] (lists xs) = m at HQ k1
      go_wp2
      refine bodyPost_ret (v := .tuple #[.pointer none, eno m]) (by simp [results, Try.results22, go_sem]) rfl ?_
      exact HQ.out

set_option maxRecDepth 100000 in
set_option maxHeartbeats 400000 in
theorem alike_ok (b b' : Nat) (a : Int) (ts ts' : List TV) (S S' : List Nat) (w : World) (h : RelAt w b a ts S) (h' : RelAt w b' a ts' S') :
    Calls Try.prog 51 #[rp b, rp b'] w fun e w' => e = .returned .nilIface ∧ Below w.heap.size w w' := by
  obtain ⟨_, _, ho, _, _, _⟩ := h.open_
  obtain ⟨_, _, ho', _, _, _⟩ := h'.open_
  have h0 := ho.cell0
  have h0' := ho'.cell0
  have q0 := ho.lt
  have q0' := ho'.lt
  clear h h' ho ho'
  go_enter Try.func51, Try.ntmps51
  go_wp2_with fail
  go_quiet (fail)
  have hb := below_drewN (Below.refl w.heap.size w) nq
  go_wp2
  go_ret
  exact ⟨rfl, hb⟩
set_option maxRecDepth 100000 in
set_option maxHeartbeats 400000 in
theorem alike_nil2 (b : Nat) (w : World) :
    Calls Try.prog 51 #[rp b, .pointer none] w fun e w' => e = .returned (eno 13) ∧ w = w' := by
  go_enter Try.func51, Try.ntmps51
  go_wp2
  go_ret
  exact ⟨rfl, rfl⟩
set_option maxRecDepth 100000 in
set_option maxHeartbeats 400000 in
theorem alike_nil1 (b : Nat) (w : World) :
    Calls Try.prog 51 #[.pointer none, rp b] w fun e w' => e = .returned (eno 13) ∧ w = w' := by
  go_enter Try.func51, Try.ntmps51
  go_wp2
  go_ret
  exact ⟨rfl, rfl⟩

set_option maxRecDepth 100000 in
set_option maxHeartbeats 400000 in
theorem Both_any (b b' : Nat) (a : Int) (ts ts' : List TV) (S S' : List Nat) (w : World) (h : RelAt w b a ts S) (h' : RelAt w b' a ts' S') (hg : Good a (lists ts)) (hg' : Good a (lists ts')) :
    Calls Try.prog 26 #[rp b, rp b'] w fun e w' => RelErr w a ((lists ts).filter (fndT (lists ts'))) 0 e w' := by
  have HAl := Lib.hid (alike_ok b b' a ts ts' S S' w h h')
  have HP := Lib.hid (fun W (hb : Below w.heap.size w W) => part_any b a ts S 18 #[rp b'] #[] (fndT (lists ts')) W (h.below hb) hg (enters_of Try.func18 (by kernel_rfl) rfl)
    (fun t W' ht hc => Has_any b' a ts' S' t W' ((h'.below hb).calm hc) hg' (((h.below hb).rows t ht).calm hc).row (right_fit (hg.1 _ (List.mem_map_of_mem ht)).1)))
  clear h h' hg hg'
  have k1 := neq_nil
  go_enter Try.func26, Try.ntmps26
  go_wp2_with fail
  refine HAl.out.mono ?_
  rintro e w1 ⟨rfl, b1⟩
  have HB := Lib.hid b1
  clear b1
  go_wp2_with fail
  refine (HP.out _ HB.out).mono ?_
  rintro e w2 ⟨b2, ts2, S2, rfl, h1, h2, h3, _, h4⟩
  have HQ : Hid (RelErr w a ((lists ts).filter (fndT (lists ts'))) 0 (.returned (.tuple #[rp b2, .nilIface])) w2) := .inl ⟨rfl, b2, rfl, ts2, S2, h1, h2, new_le HB.out.size h3, HB.out.trans (h4.mono HB.out.size)⟩
  clear h1 h2 h3 h4
  go_wp2
  refine bodyPost_ret (v := .tuple #[rp b2, .nilIface]) (by simp [results, Try.results26, go_sem]) rfl ?_
  exact HQ.out

set_option maxRecDepth 100000 in
set_option maxHeartbeats 400000 in
theorem notHas_any (bx b' : Nat) (a : Int) (ts' : List TV) (S' : List Nat) (x : TV) (w : World) (hbx : w.cell? ⟨bx, 0, none⟩ = some (rp b')) (h' : RelAt w b' a ts' S') (hg' : Good a (lists ts')) (hx : Row w x.1 x.2.2) (hxl : x.2.2.length ≤ maxLen) :
    Calls Try.prog 52 ((#[] : Array Value).push (tval x) ++ #[.pointer (some ⟨bx, 0, none⟩)]) w fun e w' => e = .returned (.bool (!fndT (lists ts') x.2.2)) ∧ Below w.heap.size w w' := by
  change Calls Try.prog _ #[tval x, .pointer (some ⟨bx, 0, none⟩)] _ _
  have HH := Lib.hid (Has_any b' a ts' S' x w h' hg' hx hxl)
  clear h' hg' hx
  generalize fndT (lists ts') x.2.2 = q at HH ⊢
  go_enter Try.func52, Try.ntmps52
  go_wp2_with fail
  refine HH.out.mono ?_
  rintro e w1 ⟨rfl, b1⟩
  go_wp2
  go_ret
  exact ⟨rfl, b1⟩
set_option maxRecDepth 100000 in
set_option maxHeartbeats 400000 in
theorem Minus_any (b b' : Nat) (a : Int) (ts ts' : List TV) (S S' : List Nat) (w : World) (h : RelAt w b a ts S) (h' : RelAt w b' a ts' S') (hg : Good a (lists ts)) (hg' : Good a (lists ts')) :
    Calls Try.prog 25 #[rp b, rp b'] w fun e w' => RelErr w a ((lists ts).filter (fun x => !fndT (lists ts') x)) 0 e w' := by
  have B0 : Below w.heap.size w (w.alloc (.cells #[rp b'] 24)) := (Below.refl _ _).alloc (Nat.le_refl _) _
  have hbx : Own (w.alloc (.cells #[rp b'] 24)) w.heap.size 24 [rp b'] := heap_alloc_new w _
  obtain ⟨w0, hw0⟩ : ∃ w0, w0 = w.alloc (.cells #[rp b'] 24) := ⟨_, rfl⟩
  rw [← hw0] at B0 hbx
  have h := h.below B0
  have h' := h'.below B0
  have HAl := Lib.hid (alike_ok b b' a ts ts' S S' w0 h h')
  have hc0 := hbx.cell 0
  have HP := Lib.hid (fun W (hb : Below w0.heap.size w0 W) => part_any b a ts S 52 #[] #[.pointer (some ⟨w.heap.size, 0, none⟩)] (fun x => !fndT (lists ts') x) W (h.below hb) hg (enters_of Try.func52 (by kernel_rfl) rfl)
    (fun t W' ht hc => notHas_any w.heap.size b' a ts' S' t W' (hc.cell ((Calm.of_below 0 hb).cell hc0)) ((h'.below hb).calm hc) hg' (((h.below hb).rows t ht).calm hc).row (right_fit (hg.1 _ (List.mem_map_of_mem ht)).1)))
  have HB0 := Lib.hid B0
  have HW := Lib.hid hw0
  clear h h' hg hg' B0 hbx hc0 hw0
  have k1 := neq_nil
  go_enter Try.func25, Try.ntmps25
  go_wp2_with fail
  rw [← HW.out]
  refine HAl.out.mono ?_
  rintro e w1 ⟨rfl, b1⟩
  have HB := Lib.hid b1
  clear b1
  go_wp2_with fail
  refine (HP.out _ HB.out).mono ?_
  rintro e w2 ⟨b2, ts2, S2, rfl, h1, h2, h3, _, h4⟩
  have hw1 : Below w.heap.size w w1 := HB0.out.trans (HB.out.mono HB0.out.size)
  have HQ : Hid (RelErr w a ((lists ts).filter (fun x => !fndT (lists ts') x)) 0 (.returned (.tuple #[rp b2, .nilIface])) w2) := .inl ⟨rfl, b2, rfl, ts2, S2, h1, h2, new_le hw1.size h3, hw1.trans (h4.mono hw1.size)⟩
  clear h1 h2 h3 h4 hw1
  go_wp2
  refine bodyPost_ret (v := .tuple #[rp b2, .nilIface]) (by simp [results, Try.results25, go_sem]) rfl ?_
  exact HQ.out

set_option maxRecDepth 100000 in
set_option maxHeartbeats 400000 in
theorem Union_any (b b' : Nat) (a : Int) (ts ts' : List TV) (S S' : List Nat) (w : World) (h : RelAt w b a ts S) (h' : RelAt w b' a ts' S') (hg : Good a (lists ts)) (hg' : Good a (lists ts')) :
    Calls Try.prog 24 #[rp b, rp b'] w fun e w' => RelErr w a (allL a (lists ts) (lists ts')) (allE a (lists ts) (lists ts')) e w' := by
  have HAl := Lib.hid (alike_ok b b' a ts ts' S S' w h h')
  have HC := Lib.hid (fun W (hb : Below w.heap.size w W) => CopyR_any b a ts S W (h.below hb) hg)
  obtain ⟨A', c', ho', _, hl', _⟩ := h'.open_
  have hrows' := h'
  have ht' : ∀ x ∈ ts', Tok x := by
    obtain ⟨_, _, _, _, _, _, hh⟩ := hrows'
    intro x hx
    have hr := (hg'.1 _ (List.mem_map_of_mem hx)).1
    have := right_six hr
    refine ⟨(hh x hx).2, by omega, fun y hy => ?_⟩
    have hv := hr
    simp only [rightT, Bool.and_eq_true, Bool.not_eq_true'] at hv
    have h2 := List.any_eq_false.1 hv.2 y hy
    exact right_small (by simpa [badV] using h2)
  have h1' := ho'.cell1
  have q' := ho'.lt
  have HL' := Lib.hid hl'
  have HT' := Lib.hid ht'
  have HG := Lib.hid hg
  have hn' := hg'.len
  clear h h' hg hg' ho' hl' hrows' ht'
  have k1 := neq_nil
  go_enter Try.func24, Try.ntmps24
  go_wp2_with fail
  refine HAl.out.mono ?_
  rintro e w1 ⟨rfl, b1⟩
  have HB := Lib.hid b1
  clear b1
  go_wp2_with fail
  refine (HC.out _ HB.out).mono ?_
  rintro e w2 ⟨b2, ts2, S2, rfl, hr2, hl2, hs2, _, hb2⟩
  have hB2 : Below w.heap.size w w2 := HB.out.trans (hb2.mono HB.out.size)
  have hS2 := new_le HB.out.size hs2
  have HA := Lib.hid (addAll_any b2 a ts2 S2 A' c' ts' w2 hr2 (by rw [hl2]; exact HG.out) (HL'.out.kept (Kept.of [] hB2) (fun k hk => .inr (hS2 k hk))) HT'.out (by unfold maxLen; omega))
  rw [hl2] at HA
  have h1' := (hB2.cell (p := ⟨b', 1, none⟩) q').trans h1'
  have q2' : b' < w2.heap.size := Nat.lt_of_lt_of_le q' hB2.size
  have HB2 := Lib.hid hB2
  have HS2 := Lib.hid hS2
  clear hr2 hl2 hs2 hb2 hB2 hS2 HC HAl
  go_wp2_with fail
  refine HA.out.mono ?_
  rintro e w3 ⟨ts3, S3, rfl, hr3, hl3, hk3, hs3⟩
  have hb3 : Below w.heap.size w w3 := HB2.out.trans (hk3.below HB2.out.size HS2.out)
  have hnew : ∀ k ∈ S3, w.heap.size ≤ k := fun k hk => by
    rcases hs3 k hk with h | h
    · exact HS2.out k h
    · exact Nat.le_trans HB2.out.size h
  have HR := Lib.hid hr3
  have HL2 := Lib.hid hl3
  have HB3 := Lib.hid hb3
  have HN3 := Lib.hid hnew
  clear hr3 hl3 hk3 hs3 hb3 hnew k1 h1'
  by_cases h0 : allE a (lists ts) (lists ts') = 0
  · have HQ : Hid (RelErr w a (allL a (lists ts) (lists ts')) (allE a (lists ts) (lists ts')) (.returned (.tuple #[rp b2, .nilIface])) w3) := .inl ⟨h0, _, rfl, ts3, S3, HR.out, HL2.out, HN3.out, HB3.out⟩
    rw [h0, err0]
    have k1 := neq_nil
    clear HR HL2 HB3 HN3 h0 HA
    go_wp2
    refine bodyPost_ret (v := .tuple #[rp b2, .nilIface]) (by simp [results, Try.results24, go_sem]) rfl ?_
    exact HQ.out
  · have HQ : Hid (RelErr w a (allL a (lists ts) (lists ts')) (allE a (lists ts) (lists ts')) (.returned (.tuple #[.pointer none, eno (allE a (lists ts) (lists ts'))])) w3) := .inr ⟨h0, rfl, HB3.out⟩
    rw [err_eno h0]
    have k1 := neq_eno (allE a (lists ts) (lists ts'))
    clear HR HL2 HB3 HN3 h0 HA
    go_wp2
    refine bodyPost_ret (v := .tuple #[.pointer none, eno (allE a (lists ts) (lists ts'))]) (by simp [results, Try.results24, go_sem]) rfl ?_
    exact HQ.out
end Go.Proofs.Ytbahmkhnnahddaa
