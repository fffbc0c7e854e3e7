/- The document's relations: Project. Conditions: at most 60 tuples, at most 20 columns. -/
import Derived.Test.YtbahmkhnnahddaaRelRg
import Derived.Test.YtbahmkhnnahddaaRelRf
import Derived.Test.YtbahmkhnnahddaaRelRh
import Derived.Test.YtbahmkhnnahddaaTupR
import Derived.BigQuiet
namespace Go.Proofs.Ytbahmkhnnahddaa
open Go.RowKit Go.Deep Go.Shelf

set_option maxRecDepth 100000 in
set_option maxHeartbeats 1000000 in
theorem refPick_nil (A : Option Addr) (c : Nat) (l : List V3) (C : Option Addr) (cc : Nat) (w : World) :
    Calls Try.prog 57 #[.slice A l.length c, .slice C 0 cc] w fun e w' => e = .returned (.tuple #[.slice none 0 0, .int .i64 0]) ∧ Below w.heap.size w w' := by
  go_enter Try.func57, Try.ntmps57
  go_wp2
  go_loopw [6, 7] (fun v j wr => v = .slice none 0 0 ∧ j = .int .i64 0 ∧ Hid (Below w.heap.size w wr)) (fun _ _ _ => 0)
  case atStart => exact ⟨rfl, rfl, Below.refl _ _⟩
  case round =>
    obtain ⟨rfl, rfl, HB⟩ := hrel
    go_wp2
    refine bodyPost_ret (v := .tuple #[.slice none 0 0, .int .i64 0]) (by simp [results, Try.results57, go_sem]) rfl ⟨rfl, HB.out⟩

def PickR (w : World) (l : List V3) (cs : List Int) (e : Ending) (w' : World) : Prop :=
  ∃ A c, e = .returned (.tuple #[.slice A (pickT l cs).length c, .int .i64 0]) ∧ (A = none → c = 0) ∧ Row w' A (pickT l cs) ∧ Below w.heap.size w w'
/-- the document's Pick, where the columns are there. -/
theorem refPick_form (A : Option Addr) (c : Nat) (l : List V3) (C : Option Addr) (cc : Nat) (cs : List Int) (h6 : cs.length ≤ 6) (hbad : cs.any (badC l.length) = false) (hll : l.length ≤ maxLen) (w : World) (hrl : Row w A l) (hr : Cols w C cs) :
    Calls Try.prog 57 #[.slice A l.length c, .slice C cs.length cc] w fun e w' => PickR w l cs e w' := by
  cases cs with
  | nil => exact (refPick_nil A c l C cc w).mono fun e w' h => ⟨none, 0, h.1, fun _ => rfl, Row.nil _ _, h.2⟩
  | cons z r =>
    refine (refPick_any A c l C cc (z :: r) (by omega) hll w hrl hr).mono fun e w' h => ?_
    obtain ⟨A', c', he, hrow⟩ := h.2.2.1 hbad (by omega)
    refine ⟨A', c', he, fun hn => ?_, hrow, h.2.2.2⟩
    subst hn
    obtain ⟨b, o, e1, _⟩ := hrow (by rw [pick_len]; simp)
    cases e1

/-- the number of Project's error. -/
def prE (na : Nat) (cs : List Int) : Int := if cs.any (badC na) = true then 1 else if 6 < cs.length then 6 else 0
def prL (L : List (List V3)) (cs : List Int) : List (List V3) := (L.map fun l => pickT l cs).foldl putT []

/-- the boxes, between two rounds of the second loop. -/
def PrI (S : List Nat) (w : World) (a na : Int) (b7 : Nat) (B : Value) (M : List (List V3)) (wr : World) : Prop :=
  ∃ A c nn, Own wr b7 33 [.int .i64 na, .slice A nn c] ∧ RefR (b7 :: w.heap.size :: (w.heap.size + 1) :: S) wr na (rv3 na A nn c) M ∧ Own wr w.heap.size 33 [.int .i64 a, B] ∧ Own wr (w.heap.size + 1) 33 [.int .i64 0, .slice none 0 0] ∧ Below w.heap.size w wr ∧ w.heap.size + 1 < b7

theorem pr_next {S : List Nat} {w wr w2 : World} {a na : Int} {b7 : Nat} {B : Value} {M M' : List (List V3)} {A : Option Addr} {c nn : Nat} (h : PrI S w a na b7 B M wr) (hb : Below wr.heap.size wr w2) (hR : RefR (b7 :: w.heap.size :: (w.heap.size + 1) :: S) w2 na (rv3 na A nn c) M') :
    PrI S w a na b7 B M' ((w2.setCell ⟨b7, 0, none⟩ (.int .i64 na)).setCell ⟨b7, 1, none⟩ (.slice A nn c)) := by
  obtain ⟨A0, c0, n0, h1, _, h3, h4, h5, h6⟩ := h
  have ks : Kept [b7] w2 ((w2.setCell ⟨b7, 0, none⟩ (.int .i64 na)).setCell ⟨b7, 1, none⟩ (.slice A nn c)) := ((Kept.refl _ w2).setCell (.inl (by simp)) _).setCell (.inl (by simp)) _
  exact ⟨A, c, nn, (h1.below hb).two, hR.kept (ks.more (fun k hk => by simp only [List.mem_singleton] at hk; simp [hk])) (Sub.refl _ _), ks.own (h3.below hb) (by simp only [List.mem_singleton]; omega), ks.own (h4.below hb) (by simp only [List.mem_singleton]; omega), ((h5.trans (hb.mono h5.size)).setCell (by simp; omega) _).setCell (by simp; omega) _, h6⟩
theorem pr_sub {S : List Nat} {w wr W : World} {a na : Int} {b7 : Nat} {B : Value} {M : List (List V3)} (h : PrI S w a na b7 B M wr) (hS : ∀ k ∈ S, k < w.heap.size) (hb : Below wr.heap.size wr W) : ∀ k ∈ b7 :: w.heap.size :: (w.heap.size + 1) :: S, k < W.heap.size := by
  obtain ⟨A0, c0, n0, h1, _, h3, h4, h5, h6⟩ := h
  have := h1.lt
  have := h4.lt
  have := hb.size
  intro k hk
  simp only [List.mem_cons] at hk
  rcases hk with rfl | rfl | rfl | hk
  · omega
  · omega
  · omega
  · have := hS k hk; omega
theorem pick_fold {us : List TV} {k : Nat} (hk : k < us.length) (cs : List Int) : ((lists (us.take (k + 1))).map fun l => pickT l cs).foldl putT [] = putT (((lists (us.take k)).map fun l => pickT l cs).foldl putT []) (pickT us[k].2.2 cs) := by
  rw [List.take_succ_eq_append_getElem hk]
  simp only [lists, List.map_append, List.foldl_append, List.map_cons, List.map_nil, List.foldl_cons, List.foldl_nil]
theorem pick_ok (us : List (List V3)) (cs : List Int) (h6 : cs.length ≤ 6) : LOk ((us.map fun l => pickT l cs).foldl putT []) ∧ ((us.map fun l => pickT l cs).foldl putT []).length ≤ us.length := by
  have h := putF_ok (us.map fun l => pickT l cs) [] LOk.nil (fun x hx => by
    obtain ⟨l, _, rfl⟩ := List.mem_map.1 hx
    rw [pick_len]; omega)
  exact ⟨h.1, by simpa using h.2⟩

set_option maxRecDepth 100000 in
set_option maxHeartbeats 2000000 in
theorem refProject_any (S : List Nat) (na : Nat) (m : Value) (L : List (List V3)) (C : Option Addr) (cc : Nat) (cs : List Int) (w : World) (hS : ∀ k ∈ S, k < w.heap.size) (hm : RefR [] w na m L) (hL : ∀ l ∈ L, l.length = na) (hna : na ≤ 6) (hn : L.length ≤ 60) (hcs : cs.length ≤ 20) (hc : Cols w C cs) :
    Calls Try.prog 33 #[m, .slice C cs.length cc] w fun e w' => ROfPost S w cs.length (prL L cs) (prE na cs) e w' := by
  obtain ⟨us, ⟨A, c, rfl, _, _, hl, hun, _⟩, rfl⟩ := hm
  obtain ⟨h2, h4, hb⟩ := ref_start w na A us.length c
  have hn60 : us.length ≤ 60 := by simpa using hn
  have HL := Lib.hid hl
  have HC := Lib.hid hc
  have HS := Lib.hid hS
  have H2 := Lib.hid h2
  have H4 := Lib.hid h4
  have HB := Lib.hid hb
  clear hl hc hS h2 h4 hb
  go_enter Try.func33, Try.ntmps33
  go_wp2_with fail
  go_loopw [6] (fun ix wr => ∃ k : Nat, k ≤ cs.length ∧ ix = .int .i64 k ∧ Hid ((cs.take k).any (badC na) = false) ∧ Hid (Below (refW w na A us.length c).heap.size (refW w na A us.length c) wr)) (fun ix _ => cs.length - (intOf ix).toNat)
  case atStart => exact ⟨0, Nat.zero_le _, rfl, rfl, Below.refl _ _⟩
  case round =>
    obtain ⟨k, hk, rfl, HN, HBr⟩ := hrel
    have o2 := H2.out.below HBr.out
    have o4 := H4.out.below HBr.out
    have BR := Lib.hid (HB.out.trans (HBr.out.mono HB.out.size))
    have h20 := o2.cell 0
    have q2 := o2.lt
    have h40 := o4.cell 0
    have h41 := o4.cell 1
    have f40 := o4.frozen 0
    have f41 := o4.frozen 1
    have q4 := o4.lt
    have O2 := Lib.hid o2
    have O4 := Lib.hid o4
    clear o2 o4
    by_cases hlt : k < cs.length
    · obtain ⟨gc, oc, rfl, hgc, hcc⟩ := HC.out.at_ hlt
      have hcc := (BR.out.cell (p := ⟨gc, oc + k, none⟩) hgc).trans hcc
      have qc : gc < wr.heap.size := Nat.lt_of_lt_of_le hgc BR.out.size
      have HNN := Lib.hid (fun h => nobad_snoc hlt HN.out h)
      have HBA := Lib.hid (fun h => bad_at (n := na) hlt h)
      generalize cs[k] = z at hcc HNN HBA
      by_cases h1 : z < 0
      · have HQ : Hid (prE na cs = 1) := by show _ = _; unfold prE; rw [if_pos (HBA.out (by simp [badC, h1]))]
        clear HNN HBA
        go_wp2_with fail
        go_quiet (fail)
        obtain ⟨w5, hw5⟩ : ∃ w5, w5 = wr.drewN nq := ⟨_, rfl⟩
        have b5 : Below wr.heap.size wr w5 := by rw [hw5]; exact below_drewN (Below.refl _ wr) nq
        rw [← hw5]
        have o4 := O4.out.below b5
        have HF := Lib.hid (set_two (BR.out.trans (b5.mono BR.out.size)) (.int .i64 0) (.slice none 0 0))
        have HO := Lib.hid (o4.two (u := .int .i64 0) (v := .slice none 0 0))
        clear h20 q2 h40 h41 f40 f41 q4 hcc qc b5 hw5
        have h40 := o4.cell 0
        have h41 := o4.cell 1
        have f40 := o4.frozen 0
        have f41 := o4.frozen 1
        have q4 := o4.lt
        clear o4
        go_wp2
        refine bodyPost_ret (v := .tuple #[rv3 0 none 0 0, .int .i64 1]) (by simp [results, Try.results33, go_sem, HO.out.cell 0, HO.out.cell 1]) rfl (.inr ⟨by rw [HQ.out]; decide, by rw [HQ.out], HF.out⟩)
      · by_cases h2 : (na : Int) ≤ z
        · have HQ : Hid (prE na cs = 1) := by show _ = _; unfold prE; rw [if_pos (HBA.out (by simp [badC, h2]))]
          clear HNN HBA
          go_wp2_with fail
          go_quiet (fail)
          obtain ⟨w5, hw5⟩ : ∃ w5, w5 = wr.drewN nq := ⟨_, rfl⟩
          have b5 : Below wr.heap.size wr w5 := by rw [hw5]; exact below_drewN (Below.refl _ wr) nq
          rw [← hw5]
          have o4 := O4.out.below b5
          have HF := Lib.hid (set_two (BR.out.trans (b5.mono BR.out.size)) (.int .i64 0) (.slice none 0 0))
          have HO := Lib.hid (o4.two (u := .int .i64 0) (v := .slice none 0 0))
          clear h20 q2 h40 h41 f40 f41 q4 hcc qc b5 hw5
          have h40 := o4.cell 0
          have h41 := o4.cell 1
          have f40 := o4.frozen 0
          have f41 := o4.frozen 1
          have q4 := o4.lt
          clear o4
          go_wp2
          refine bodyPost_ret (v := .tuple #[rv3 0 none 0 0, .int .i64 1]) (by simp [results, Try.results33, go_sem, HO.out.cell 0, HO.out.cell 1]) rfl (.inr ⟨by rw [HQ.out]; decide, by rw [HQ.out], HF.out⟩)
        · have HQ := Lib.hid (HNN.out (by simp only [badC, h1, h2]; rfl))
          clear HNN HBA
          have h2' : z < (na : Int) := by omega
          have h0' : 0 ≤ z := by omega
          go_wp2_with fail
          go_quiet (fail)
          go_wp2
          go_roundw
          case rel => exact ⟨k + 1, by omega, by go_num, HQ.out, below_drewN HBr.out nq⟩
          case measure => simp [intOf]; omega
    · obtain rfl : k = cs.length := by omega
      have HNb := HN.out
      rw [List.take_length] at HNb
      by_cases h6 : (6 : Int) < (cs.length : Int)
      · have HQ : Hid (prE na cs = 6) := by show _ = _; unfold prE; rw [if_neg (by rw [HNb]; decide), if_pos (by omega)]
        have HF := Lib.hid (set_two BR.out (.int .i64 0) (.slice none 0 0))
        have HO := Lib.hid (O4.out.two (u := .int .i64 0) (v := .slice none 0 0))
        clear HNb HN
        go_wp2
        refine bodyPost_ret (v := .tuple #[rv3 0 none 0 0, .int .i64 6]) (by simp [results, Try.results33, go_sem, HO.out.cell 0, HO.out.cell 1]) rfl (.inr ⟨by rw [HQ.out]; decide, by rw [HQ.out], HF.out⟩)
      · have hc6 : cs.length ≤ 6 := by omega
        have HE : Hid (prE na cs = 0) := by show _ = _; unfold prE; rw [if_neg (by rw [HNb]; decide), if_neg (by omega)]
        have HNb' := Lib.hid HNb
        obtain ⟨wz, rfl⟩ : ∃ wz : World, wz = wr := ⟨_, rfl⟩
        have hb7 : Below wz.heap.size wz (wz.alloc (.cells #[.int .i64 cs.length, .slice none 0 0] 33)) := (Below.refl _ _).alloc (Nat.le_refl _) _
        have ho7 : Own (wz.alloc (.cells #[.int .i64 cs.length, .slice none 0 0] 33)) wz.heap.size 33 [.int .i64 cs.length, .slice none 0 0] := heap_alloc_new wz _
        have HP0 : Hid (PrI S w na cs.length wz.heap.size (.slice A us.length c) [] (wz.alloc (.cells #[.int .i64 cs.length, .slice none 0 0] 33))) :=
          ⟨none, 0, 0, ho7, ⟨[], ⟨none, 0, rfl, (fun _ => rfl), Nat.le_refl _, Lst.nil _ _ _, (fun t h => by cases h), .inl rfl⟩, rfl⟩, O2.out.below hb7, O4.out.below hb7, BR.out.trans (hb7.mono BR.out.size), q4⟩
        clear HNb HN hb7 ho7
        go_wp2_with fail
        go_loopw [8] (fun ix wr => ∃ k : Nat, k ≤ us.length ∧ ix = .int .i64 k ∧ Hid (PrI S w na cs.length wz.heap.size (.slice A us.length c) (((lists (us.take k)).map fun l => pickT l cs).foldl putT []) wr)) (fun ix _ => us.length - (intOf ix).toNat)
        case atStart => exact ⟨0, Nat.zero_le _, rfl, HP0.out⟩
        case round =>
          clear h20 q2 h40 h41 f40 f41 q4 O2 O4 BR HP0 HBr
          obtain ⟨k, hk, rfl, HI⟩ := hrel
          generalize wz.heap.size = b7 at HI ⊢
          obtain ⟨A0, c0, nn, i1, i2, i3, i4, i5, i6⟩ := HI.out
          have h70 := i1.cell 0
          have h71 := i1.cell 1
          have q7 := i1.lt
          have h20 := i3.cell 0
          have h21 := i3.cell 1
          have q2 := i3.lt
          by_cases hlt : k < us.length
          · obtain ⟨g, o, rfl, hgw, _, hc1, hr⟩ := HL.out.at_ hlt
            have hc1 := (i5.cell (p := ⟨g, o + k, none⟩) hgw).trans hc1
            have qg : g < wr.heap.size := Nat.lt_of_lt_of_le hgw i5.size
            have hla := hL us[k].2.2 (List.mem_map_of_mem (List.getElem_mem hlt))
            have hok := pick_ok (lists (us.take k)) cs hc6
            have htl : (lists (us.take k)).length ≤ 60 := by simp at hn ⊢; omega
            have HPk := Lib.hid (refPick_form us[k].1 us[k].2.1 us[k].2.2 C cc cs hc6 (by rw [hla]; exact HNb'.out) (by unfold maxLen; omega) wr (hr.row.below i5) (HC.out.below i5))
            have HPu : Hid (∀ A' c' W, Below wr.heap.size wr W → (A' = none → c' = 0) → Row W A' (pickT us[k].2.2 cs) → Calls Try.prog 46 #[rv3 cs.length A0 nn c0, .slice A' (pickT us[k].2.2 cs).length c'] W fun e w' => RefGot (b7 :: w.heap.size :: (w.heap.size + 1) :: S) W cs.length (((lists (us.take (k + 1))).map fun l => pickT l cs).foldl putT []) e w') := fun A' c' W hb hn' hrow => by
              rw [pick_fold hlt]
              exact refPut_any _ _ _ _ (A', c', pickT us[k].2.2 cs) W (pr_sub HI.out HS.out hb) (i2.below hb) hok.1 (by omega) hrow hn' (by simp only [pick_len]; omega)
            have HO := Lib.hid i1
            clear i1 i2 i3 i4 i5 i6 hr hla hok htl
            obtain ⟨D, hD⟩ : ∃ D, ((lists (us.take (k + 1))).map fun l => pickT l cs).foldl putT [] = D := ⟨_, rfl⟩
            rw [hD] at HPu
            have HD := Lib.hid hD
            clear hD
            have HN7 := Lib.hid (fun w2 A2 c2 n2 hb hR => pr_next (M' := D) (w2 := w2) (A := A2) (c := c2) (nn := n2) HI.out hb hR)
            generalize us[k] = x at hc1 HPk HPu
            obtain ⟨X, xc, xl⟩ := x
            change wr.cell? ⟨g, o + k, none⟩ = some (.slice X xl.length xc) at hc1
            simp only at HPk HPu
            go_wp2_with fail
            with_reducible refine HPk.out.mono ?_
            rintro e w2 ⟨A', c', rfl, hn', hrow, hb2⟩
            have HPv := Lib.hid (HPu.out A' c' w2 hb2 hn' hrow)
            clear hrow hn' HPk HPu hc1 qg h70 h71 q7 h20 h21 q2
            generalize pickT xl cs = pl at HPv ⊢
            have j7 := HO.out.below hb2
            have B2 := Lib.hid hb2
            clear hb2
            have h70 := j7.cell 0
            have h71 := j7.cell 1
            have q7 := j7.lt
            go_wp2_with fail
            with_reducible refine HPv.out.mono ?_
            rintro e w3 ⟨m, rfl, hm, hb3⟩
            obtain ⟨A2, c2, rfl⟩ := hm.form
            have HJ := Lib.hid (HN7.out w3 A2 c2 _ (B2.out.trans (hb3.mono B2.out.size)) hm)
            have j7 := j7.below hb3
            clear h70 h71 q7 hm hb3 HN7 HPv
            have h70 := j7.cell 0
            have h71 := j7.cell 1
            have f70 := j7.frozen 0
            have f71 := j7.frozen 1
            have q7 := j7.lt
            clear j7
            go_wp2
            go_roundw
            case rel => exact ⟨k + 1, by omega, by go_num, by rw [HD.out]; exact HJ.out⟩
            case measure => simp [intOf]; omega
          · obtain rfl : k = us.length := by omega
            rw [List.take_length] at i2
            have ks : Kept [w.heap.size + 1] wr ((wr.setCell ⟨w.heap.size + 1, 0, none⟩ (.int .i64 cs.length)).setCell ⟨w.heap.size + 1, 1, none⟩ (.slice A0 nn c0)) := ((Kept.refl _ wr).setCell (.inl (by simp)) _).setCell (.inl (by simp)) _
            have HQ : Hid (ROfPost S w cs.length (prL (lists us) cs) (prE na cs) (.returned (.tuple #[rv3 cs.length A0 nn c0, .int .i64 0])) ((wr.setCell ⟨w.heap.size + 1, 0, none⟩ (.int .i64 cs.length)).setCell ⟨w.heap.size + 1, 1, none⟩ (.slice A0 nn c0))) :=
              .inl ⟨HE.out, _, rfl, i2.kept (ks.more (fun k hk => by simp only [List.mem_singleton] at hk; simp [hk])) (fun k hk => .inl (by simp [hk])), set_two i5 _ _⟩
            have HO := Lib.hid (i4.two (u := .int .i64 cs.length) (v := .slice A0 nn c0))
            have h40 := i4.cell 0
            have h41 := i4.cell 1
            have f40 := i4.frozen 0
            have f41 := i4.frozen 1
            have q4 := i4.lt
            clear i1 i2 i3 i4 i5 i6 ks HI
            go_wp2
            refine bodyPost_ret (v := .tuple #[rv3 cs.length A0 nn c0, .int .i64 0]) (by simp [results, Try.results33, go_sem, HO.out.cell 0, HO.out.cell 1]) rfl HQ.out
end Go.Proofs.Ytbahmkhnnahddaa
