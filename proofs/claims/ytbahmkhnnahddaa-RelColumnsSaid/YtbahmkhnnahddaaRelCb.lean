/- tuple.Pick, once more: the tuple lies in new memory; picked tuples are right. Conditions: at most 6 columns. -/
import Derived.Test.YtbahmkhnnahddaaRelCa
import Derived.Test.YtbahmkhnnahddaaRelRk
namespace Go.Proofs.Ytbahmkhnnahddaa
open Go.RowKit Go.Deep Go.Shelf

/-- a call that hands back a tuple of its own and no error. -/
def GotP2 (w : World) (l : List V3) (e : Ending) (w' : World) : Prop :=
  ∃ g, e = .returned (.tuple #[.slice (some ⟨g, 0, none⟩) l.length l.length, .nilIface]) ∧ w.heap.size ≤ g ∧ Row w' (some ⟨g, 0, none⟩) l ∧ Below w.heap.size w w'

set_option maxRecDepth 100000 in
set_option maxHeartbeats 1000000 in
theorem Pick_new (A : Option Addr) (c : Nat) (l : List V3) (C : Option Addr) (cc : Nat) (cs : List Int) (hb : cs.any (badC l.length) = false) (h6 : ¬ (6 : Int) < (cs.length : Int)) (_hll : l.length ≤ maxLen) (w : World) (hrl : Row w A l) (hr : Cols w C cs) :
    Calls Try.prog 56 #[.slice A l.length c, .slice C cs.length cc] w fun e w' => GotP2 w (pickT l cs) e w' := by
  unfold maxLen at _hll
  have B0 := (Below.refl w.heap.size w).alloc (o := .cells #[.slice A l.length c] 35) (Nat.le_refl _)
  have HC := Lib.hid (ContainsC_any A c l w.heap.size C cc cs (by unfold maxLen; omega) (w.alloc (.cells #[.slice A l.length c] 35)) (by go_simp) (hr.below B0))
  rw [hb] at HC
  have HB := Lib.hid B0
  have HR := Lib.hid hr
  have HRL := Lib.hid hrl
  have HG := Lib.hid (fun (k : Nat) (hk : k < cs.length) => bad_not hb hk)
  clear hb hr hrl B0
  obtain ⟨i, hi, hz, hs, hby⟩ := info_parts infoVal
  obtain ⟨w0, hw0⟩ : ∃ w0, w0 = w.alloc (.cells #[.slice A l.length c] 35) := ⟨_, rfl⟩
  have HX : Hid (w0.cell? ⟨w.heap.size, 0, none⟩ = some (.slice A l.length c)) := by
    show w0.cell? _ = _
    rw [hw0]; go_simp
  have HN : Hid (w.heap.size < w0.heap.size) := by
    show _ < _
    rw [hw0]; simp
  rw [← hw0] at HC HB
  have HW := Lib.hid hw0
  clear hw0
  go_enter Try.func56, Try.ntmps56
  go_wp2_with fail
  rw [← HW.out]
  refine HC.out.mono ?_
  rintro e w1 ⟨rfl, rfl⟩
  go_wp2_with (at_make; refine wpList_make_full _ rfl _ _ 35 rfl w0.heap.size 48 i _ 3 Try.underlying35 hi hz hs .i64 .i64 _ _ cs.length rfl rfl rfl rfl ?b1 ?b2 ?b3 ?_)
  case b1 => rw [hby]; omega
  case b2 => unfold maxLen; omega
  case b3 => omega
  intro w1 ho hg
  clear hi hz hs hby HC
  have e0 : (Value.agg #[.int .i64 0, .int .i64 0, .string noText]).cells = #[.int .i64 0, .int .i64 0, .string noText] := rfl
  have BG : Below w0.heap.size w0 w1 := (Below.refl _ _).grown hg (Nat.le_refl _) (by simp)
  have HO1 : Hid (Own w1 w0.heap.size 48 (flat (midP l cs 0))) := by
    show Own _ _ _ _
    have := Own.of_row ho rfl
    first | rw [e0, made3] at this | rw [made3] at this
    simpa [midP] using this
  have HX1 : Hid (w1.cell? ⟨w.heap.size, 0, none⟩ = some (.slice A l.length c)) := (BG.cell HN.out).trans HX.out
  have HB1 := Lib.hid (HB.out.trans (BG.mono HB.out.size))
  have HNN := Lib.hid HB.out.size
  clear ho hg e0 BG HX
  go_wp2_with fail
  go_loopw [24] (fun i wr => ∃ k : Nat, k ≤ cs.length ∧ i = .int .i64 k ∧ Hid (Own wr w0.heap.size 48 (flat (midP l cs k))) ∧ Hid (wr.cell? ⟨w.heap.size, 0, none⟩ = some (.slice A l.length c)) ∧ Hid (Below w.heap.size w wr)) (fun i _ => cs.length - (intOf i).toNat)
  case atStart => exact ⟨0, Nat.zero_le _, rfl, HO1.out, HX1.out, HB1.out⟩
  case round =>
    obtain ⟨k, hk, rfl, HO, HXr, HBr⟩ := hrel
    by_cases hlt : k < cs.length
    · obtain ⟨gc, oc, rfl, hgc, hcc⟩ := HR.out.at_ hlt
      have hcc := (HBr.out.cell hgc).trans hcc
      obtain ⟨m, hm, hml⟩ := HG.out k hlt
      have HS := Lib.hid (midP_set l cs hlt)
      rw [hm] at hcc HS
      clear hm
      obtain ⟨b, o, rfl, hbw, hc⟩ := HRL.out.at_ hml
      have hgd : l.getD ((m : Int)).toNat zeroV = l[m] := by simp [List.getD, hml]
      rw [hgd] at HS
      clear hgd
      generalize l[m] = x at hc HS
      obtain ⟨xk, xn, xs⟩ := x
      obtain ⟨c0, c1, c2⟩ := hc
      have c0 := (HBr.out.cell hbw).trans c0
      have c1 := (HBr.out.cell hbw).trans c1
      have c2 := (HBr.out.cell hbw).trans c2
      simp only at c0 c1 c2
      have hbx := HXr.out
      have hml' : (m : Int) < (l.length : Int) := by omega
      have hlen := midP_len l cs (Nat.le_of_lt hlt)
      have hin : k < (midP l cs k).length := by omega
      obtain ⟨g0, g1, g2⟩ := flat_at (midP l cs k) k _ (List.getElem?_eq_getElem hin)
      have q0 := (HO.out.cell (k * 3)).trans g0
      have q1 := (HO.out.cell (k * 3 + 1)).trans g1
      have q2 := (HO.out.cell (k * 3 + 2)).trans g2
      have f0 := HO.out.frozen (k * 3)
      have f1 := HO.out.frozen (k * 3 + 1)
      have f2 := HO.out.frozen (k * 3 + 2)
      have HF := Lib.hid (flat_set (midP l cs k) k (xk, xn, xs) hin)
      have HNx := Lib.hid (show w.heap.size ≠ w0.heap.size by have := HN.out; omega)
      clear g0 g1 g2
      generalize (midP l cs k)[k] = y at q0 q1 q2
      clear hlen hin
      go_wp2_with fail
      go_roundw
      case rel => exact ⟨k + 1, by omega, by go_num, (HF.out.trans (congrArg flat HS.out)) ▸ (((HO.out.set _ _).set _ _).set _ _), ((World.cell?_setCell_far _ _ _ _ (Ne.symm HNx.out)).trans ((World.cell?_setCell_far _ _ _ _ (Ne.symm HNx.out)).trans (World.cell?_setCell_far _ _ _ _ (Ne.symm HNx.out)))).trans HXr.out, ((HBr.out.setCell HNN.out _).setCell HNN.out _).setCell HNN.out _⟩
      case measure => simp [intOf]; omega
    · have hkl : k = cs.length := by omega
      subst hkl
      have HQ := Lib.hid (Own.row (midP_end l cs ▸ HO.out))
      go_wp2
      refine bodyPost_ret (v := .tuple #[.slice (some ⟨w0.heap.size, 0, none⟩) cs.length cs.length, .nilIface]) (by simp [results, Try.results56, go_sem]) rfl ⟨w0.heap.size, by rw [pick_len], HNN.out, HQ.out, HBr.out⟩

/-- what is picked of a right tuple is right. -/
theorem right_pick {l : List V3} {cs : List Int} (h : rightT l = true) (hb : cs.any (badC l.length) = false) (h6 : cs.length ≤ 6) : rightT (pickT l cs) = true := by
  simp only [rightT, Bool.and_eq_true, Bool.not_eq_true', decide_eq_true_eq] at h ⊢
  refine ⟨by rw [pick_len]; exact h6, List.any_eq_false.2 fun x hx => ?_⟩
  simp only [pickT, List.mem_map] at hx
  obtain ⟨z, hz, rfl⟩ := hx
  obtain ⟨k, hk, rfl⟩ := List.mem_iff_getElem.1 hz
  obtain ⟨m, hm, hml⟩ := bad_not hb hk
  rw [hm]
  have e : l.getD ((m : Int)).toNat zeroV = l[m] := by simp [List.getD, hml]
  rw [e]
  exact List.any_eq_false.1 h.2 _ (List.getElem_mem hml)
theorem right_fits {l : List V3} (h : rightT l = true) : Fit l := fun y hy => by
  simp only [rightT, Bool.and_eq_true, Bool.not_eq_true'] at h
  have h2 := List.any_eq_false.1 h.2 y hy
  exact right_small (by simpa [badV] using h2)
/-- the relation of the picked tuples, on both sides. -/
theorem picks_of {na : Nat} {L : List (List V3)} {cs : List Int} (hg : Good na L) (hb : cs.any (badC na) = false) (h6 : cs.length ≤ 6) :
    ofE cs.length (L.map fun l => pickT l cs) = 0 ∧ ofL cs.length (L.map fun l => pickT l cs) = prL L cs := by
  have hx : ∀ x ∈ L.map fun l => pickT l cs, rightT x = true ∧ (x.length : Int) = (cs.length : Int) := fun x hx => by
    obtain ⟨l, hl, rfl⟩ := List.mem_map.1 hx
    obtain ⟨h1, h2⟩ := hg.1 l hl
    have h3 : l.length = na := by omega
    exact ⟨right_pick h1 (by rw [h3]; exact hb) h6, by rw [pick_len]⟩
  have hl : ([] : List (List V3)).length + (L.map fun l => pickT l cs).length ≤ 2000 := by
    have := hg.2.2
    simpa using this
  obtain ⟨e1, _⟩ := all_fits (a := cs.length) _ hx hl
  refine ⟨?_, union_put _ hx hl⟩
  unfold ofE
  rw [if_neg (by omega)]
  exact e1
end Go.Proofs.Ytbahmkhnnahddaa
