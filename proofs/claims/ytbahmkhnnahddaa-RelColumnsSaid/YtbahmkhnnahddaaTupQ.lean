/- tuple.Pick: the values of columns. Conditions: none beyond Go's longest. -/
import Derived.Test.YtbahmkhnnahddaaTupP
namespace Go.Proofs.Ytbahmkhnnahddaa
open Go.RowKit Go.Deep

abbrev zeroV : V3 := (0, 0, noText)
def pickT (l : List V3) (cs : List Int) : List V3 := cs.map fun c => l.getD c.toNat zeroV
theorem pick_len (l : List V3) (cs : List Int) : (pickT l cs).length = cs.length := by simp [pickT]
theorem made3 (n : Nat) : (madeCells #[.int .i64 0, .int .i64 0, .string noText] (n * 3)).toList = flat (List.replicate n zeroV) := by
  have h : ∀ m, (madeCells #[.int .i64 0, .int .i64 0, .string noText] m).toList = (List.range m).map fun i => (#[Value.int .i64 0, .int .i64 0, .string noText] : Array Value)[i % 3]! := by
    intro m
    simp [madeCells]
  rw [h]
  induction n with
  | zero => rfl
  | succ n ih =>
    have e : (n + 1) * 3 = n * 3 + 1 + 1 + 1 := by omega
    rw [e, List.range_succ, List.range_succ, List.range_succ, List.replicate_succ', flat_append, ← ih]
    have h0 : n * 3 % 3 = 0 := by omega
    have h1 : (n * 3 + 1) % 3 = 1 := by omega
    have h2 : (n * 3 + 1 + 1) % 3 = 2 := by omega
    simp only [List.map_append, List.map_cons, List.map_nil, h0, h1, h2, List.append_assoc]
    rfl
theorem flat_set : ∀ (L : List V3) (k : Nat) (x : V3), k < L.length →
    (((flat L).set (k * 3) (.int .i64 x.1)).set (k * 3 + 1) (.int .i64 x.2.1)).set (k * 3 + 2) (.string x.2.2) = flat (L.set k x)
  | [], k, x, h => by simp at h
  | y :: r, 0, x, _ => rfl
  | y :: r, k + 1, x, h => by
    have := flat_set r k x (by simpa using h)
    have e : (k + 1) * 3 = k * 3 + 3 := by omega
    rw [e]
    simp only [List.set_cons_succ]
    simp only [flat]
    rw [← this]
    rfl
/-- the first so many are picked. -/
def midP (l : List V3) (cs : List Int) (k : Nat) : List V3 := (pickT l cs).take k ++ List.replicate (cs.length - k) zeroV
theorem midP_len (l : List V3) (cs : List Int) {k : Nat} (hk : k ≤ cs.length) : (midP l cs k).length = cs.length := by
  simp only [midP, List.length_append, List.length_take, List.length_replicate, pick_len]
  omega
theorem midP_set (l : List V3) (cs : List Int) {k : Nat} (hk : k < cs.length) : (midP l cs k).set k (l.getD cs[k].toNat zeroV) = midP l cs (k + 1) := by
  have hk' : k < (pickT l cs).length := by rw [pick_len]; exact hk
  have h1 : ((pickT l cs).take k).length = k := by rw [List.length_take]; omega
  have e : cs.length - k = (cs.length - (k + 1)) + 1 := by omega
  unfold midP
  rw [List.set_append_right _ _ (by omega), h1, Nat.sub_self, e, List.replicate_succ, List.set_cons_zero, List.take_succ_eq_append_getElem hk']
  simp [pickT]
theorem midP_end (l : List V3) (cs : List Int) : midP l cs cs.length = pickT l cs := by
  simp only [midP, Nat.sub_self, List.replicate_zero, List.append_nil]
  rw [← pick_len l cs, List.take_length]
theorem Own.row {w : World} {g : Nat} {e : TypeId} {L : List V3} (h : Own w g e (flat L)) : Row w (some ⟨g, 0, none⟩) L := by
  intro _
  refine ⟨g, 0, rfl, h.lt, cells_flat fun j u hu => ?_⟩
  have ha : Addr.add ⟨g, 0, none⟩ j = ⟨g, j, none⟩ := by
    unfold Addr.add
    split
    · subst j; rfl
    · simp
  rw [ha, h.cell]
  exact hu
theorem bad_not {n : Nat} {cs : List Int} (h : cs.any (badC n) = false) {k : Nat} (hk : k < cs.length) : ∃ m : Nat, cs[k] = (m : Int) ∧ m < n := by
  have h1 := List.any_eq_false.1 h cs[k] (List.getElem_mem hk)
  simp [badC] at h1
  exact ⟨cs[k].toNat, by omega, by omega⟩

set_option maxRecDepth 100000 in
set_option maxHeartbeats 400000 in
theorem Pick_range (A : Option Addr) (c : Nat) (l : List V3) (C : Option Addr) (cc : Nat) (cs : List Int) (hl : cs.length ≤ maxLen) (hb : cs.any (badC l.length) = true) (w : World) (hr : Cols w C cs) :
    Calls Try.prog 56 #[.slice A l.length c, .slice C cs.length cc] w fun e w' => e = .returned (.tuple #[.slice none 0 0, eno 1]) ∧ Below w.heap.size w w' := by
  have B0 := (Below.refl w.heap.size w).alloc (o := .cells #[.slice A l.length c] 35) (Nat.le_refl _)
  have HC := Lib.hid (ContainsC_any A c l w.heap.size C cc cs hl (w.alloc (.cells #[.slice A l.length c] 35)) (by go_simp) (hr.below B0))
  rw [hb] at HC
  have HB := Lib.hid B0
  clear hb hr B0
  go_enter Try.func56, Try.ntmps56
  go_wp2_with fail
  refine HC.out.mono ?_
  rintro e w1 ⟨rfl, rfl⟩
  go_wp2
  refine bodyPost_ret (v := .tuple #[.slice none 0 0, eno 1]) (by simp [results, Try.results56, go_sem]) rfl ⟨rfl, ?_⟩
  exact HB.out

set_option maxRecDepth 100000 in
set_option maxHeartbeats 400000 in
theorem Pick_arity (A : Option Addr) (c : Nat) (l : List V3) (C : Option Addr) (cc : Nat) (cs : List Int) (hl : cs.length ≤ maxLen) (hb : cs.any (badC l.length) = false) (h6 : (6 : Int) < (cs.length : Int)) (w : World) (hr : Cols w C cs) :
    Calls Try.prog 56 #[.slice A l.length c, .slice C cs.length cc] w fun e w' => e = .returned (.tuple #[.slice none 0 0, eno 6]) ∧ Below w.heap.size w w' := by
  have B0 := (Below.refl w.heap.size w).alloc (o := .cells #[.slice A l.length c] 35) (Nat.le_refl _)
  have HC := Lib.hid (ContainsC_any A c l w.heap.size C cc cs hl (w.alloc (.cells #[.slice A l.length c] 35)) (by go_simp) (hr.below B0))
  rw [hb] at HC
  have HB := Lib.hid B0
  clear hb hr B0
  go_enter Try.func56, Try.ntmps56
  go_wp2_with fail
  refine HC.out.mono ?_
  rintro e w1 ⟨rfl, rfl⟩
  go_wp2
  refine bodyPost_ret (v := .tuple #[.slice none 0 0, eno 6]) (by simp [results, Try.results56, go_sem]) rfl ⟨rfl, ?_⟩
  exact HB.out

/-- a call that hands back a tuple of its own and no error. -/
def GotP (w : World) (l : List V3) (e : Ending) (w' : World) : Prop :=
  ∃ g, e = .returned (.tuple #[.slice (some ⟨g, 0, none⟩) l.length l.length, .nilIface]) ∧ Row w' (some ⟨g, 0, none⟩) l ∧ Below w.heap.size w w'

set_option maxRecDepth 100000 in
set_option maxHeartbeats 1000000 in
theorem Pick_ok (A : Option Addr) (c : Nat) (l : List V3) (C : Option Addr) (cc : Nat) (cs : List Int) (hb : cs.any (badC l.length) = false) (h6 : ¬ (6 : Int) < (cs.length : Int)) (_hll : l.length ≤ maxLen) (w : World) (hrl : Row w A l) (hr : Cols w C cs) :
    Calls Try.prog 56 #[.slice A l.length c, .slice C cs.length cc] w fun e w' => GotP w (pickT l cs) e w' := by
  unfold maxLen at _hll
  have B0 := (Below.refl w.heap.size w).alloc (o := .cells #[.slice A l.length c] 35) (Nat.le_refl _)
  have HC := Lib.hid (ContainsC_any A c l w.heap.size C cc cs (by unfold maxLen; omega) (w.alloc (.cells #[.slice A l.length c] 35)) (by go_simp) (hr.below B0))
  rw [hb] at HC
  have HB := Lib.hid B0
  have HR := Lib.hid hr
  have HRL := Lib.hid hrl
  have HG := Lib.hid (fun (k : Nat) (hk : k < cs.length) => bad_not hb hk)
  clear hb hr hrl B0
  obtain ⟨i, hi, hz, hs, hby⟩ := info_parts infoVal
  obtain ⟨w0, hw0⟩ : ∃ w0, w0 = w.alloc (.cells #[.slice A l.length c] 35) := ⟨_, rfl⟩
  have HX : Hid (w0.cell? ⟨w.heap.size, 0, none⟩ = some (.slice A l.length c)) := by
    show w0.cell? _ = _
    rw [hw0]; go_simp
  have HN : Hid (w.heap.size < w0.heap.size) := by
    show _ < _
    rw [hw0]; simp
  rw [← hw0] at HC HB
  have HW := Lib.hid hw0
  clear hw0
  go_enter Try.func56, Try.ntmps56
  go_wp2_with fail
  rw [← HW.out]
  refine HC.out.mono ?_
  rintro e w1 ⟨rfl, rfl⟩
  go_wp2_with (at_make; refine wpList_make_full _ rfl _ _ 35 rfl w0.heap.size 48 i _ 3 Try.underlying35 hi hz hs .i64 .i64 _ _ cs.length rfl rfl rfl rfl ?b1 ?b2 ?b3 ?_)
  case b1 => rw [hby]; omega
  case b2 => unfold maxLen; omega
  case b3 => omega
  intro w1 ho hg
  clear hi hz hs hby HC
  have e0 : (Value.agg #[.int .i64 0, .int .i64 0, .string noText]).cells = #[.int .i64 0, .int .i64 0, .string noText] := rfl
  have BG : Below w0.heap.size w0 w1 := (Below.refl _ _).grown hg (Nat.le_refl _) (by simp)
  have HO1 : Hid (Own w1 w0.heap.size 48 (flat (midP l cs 0))) := by
    show Own _ _ _ _
    have := Own.of_row ho rfl
    first | rw [e0, made3] at this | rw [made3] at this
    simpa [midP] using this
  have HX1 : Hid (w1.cell? ⟨w.heap.size, 0, none⟩ = some (.slice A l.length c)) := (BG.cell HN.out).trans HX.out
  have HB1 := Lib.hid (HB.out.trans (BG.mono HB.out.size))
  have HNN := Lib.hid HB.out.size
  clear ho hg e0 BG HX
  go_wp2_with fail
  go_loopw [24] (fun i wr => ∃ k : Nat, k ≤ cs.length ∧ i = .int .i64 k ∧ Hid (Own wr w0.heap.size 48 (flat (midP l cs k))) ∧ Hid (wr.cell? ⟨w.heap.size, 0, none⟩ = some (.slice A l.length c)) ∧ Hid (Below w.heap.size w wr)) (fun i _ => cs.length - (intOf i).toNat)
  case atStart => exact ⟨0, Nat.zero_le _, rfl, HO1.out, HX1.out, HB1.out⟩
  case round =>
    obtain ⟨k, hk, rfl, HO, HXr, HBr⟩ := hrel
    by_cases hlt : k < cs.length
    · obtain ⟨gc, oc, rfl, hgc, hcc⟩ := HR.out.at_ hlt
      have hcc := (HBr.out.cell hgc).trans hcc
      obtain ⟨m, hm, hml⟩ := HG.out k hlt
      have HS := Lib.hid (midP_set l cs hlt)
      rw [hm] at hcc HS
      clear hm
      obtain ⟨b, o, rfl, hbw, hc⟩ := HRL.out.at_ hml
      have hgd : l.getD ((m : Int)).toNat zeroV = l[m] := by simp [List.getD, hml]
      rw [hgd] at HS
      clear hgd
      generalize l[m] = x at hc HS
      obtain ⟨xk, xn, xs⟩ := x
      obtain ⟨c0, c1, c2⟩ := hc
      have c0 := (HBr.out.cell hbw).trans c0
      have c1 := (HBr.out.cell hbw).trans c1
      have c2 := (HBr.out.cell hbw).trans c2
      simp only at c0 c1 c2
      have hbx := HXr.out
      have hml' : (m : Int) < (l.length : Int) := by omega
      have hlen := midP_len l cs (Nat.le_of_lt hlt)
      have hin : k < (midP l cs k).length := by omega
      obtain ⟨g0, g1, g2⟩ := flat_at (midP l cs k) k _ (List.getElem?_eq_getElem hin)
      have q0 := (HO.out.cell (k * 3)).trans g0
      have q1 := (HO.out.cell (k * 3 + 1)).trans g1
      have q2 := (HO.out.cell (k * 3 + 2)).trans g2
      have f0 := HO.out.frozen (k * 3)
      have f1 := HO.out.frozen (k * 3 + 1)
      have f2 := HO.out.frozen (k * 3 + 2)
      have HF := Lib.hid (flat_set (midP l cs k) k (xk, xn, xs) hin)
      have HNx := Lib.hid (show w.heap.size ≠ w0.heap.size by have := HN.out; omega)
      clear g0 g1 g2
      generalize (midP l cs k)[k] = y at q0 q1 q2
      clear hlen hin
      go_wp2_with fail
      go_roundw
      case rel => exact ⟨k + 1, by omega, by go_num, (HF.out.trans (congrArg flat HS.out)) ▸ (((HO.out.set _ _).set _ _).set _ _), ((World.cell?_setCell_far _ _ _ _ (Ne.symm HNx.out)).trans ((World.cell?_setCell_far _ _ _ _ (Ne.symm HNx.out)).trans (World.cell?_setCell_far _ _ _ _ (Ne.symm HNx.out)))).trans HXr.out, ((HBr.out.setCell HNN.out _).setCell HNN.out _).setCell HNN.out _⟩
      case measure => simp [intOf]; omega
    · have hkl : k = cs.length := by omega
      subst hkl
      have HQ := Lib.hid (Own.row (midP_end l cs ▸ HO.out))
      go_wp2
      refine bodyPost_ret (v := .tuple #[.slice (some ⟨w0.heap.size, 0, none⟩) cs.length cs.length, .nilIface]) (by simp [results, Try.results56, go_sem]) rfl ⟨w0.heap.size, by rw [pick_len], HQ.out, HBr.out⟩
end Go.Proofs.Ytbahmkhnnahddaa
