/- slices.Clone of a list of tuples; what a loop's body may turn. Conditions: at most 2000 tuples. -/
import Derived.Test.YtbahmkhnnahddaaRelR
namespace Go.Proofs.Ytbahmkhnnahddaa
open Go.RowKit Go.Deep Go.Shelf

/-- a list of tuples in new memory. -/
def ClonePost (w : World) (ts : List TV) (e : Ending) (w' : World) : Prop :=
  ∃ A' c', e = .returned (.slice A' ts.length c') ∧ (∀ g o, A' = some ⟨g, o, none⟩ → w.heap.size ≤ g) ∧ (0 < ts.length → ∃ g o, A' = some ⟨g, o, none⟩ ∧ g < w'.heap.size ∧ ∀ (i : Nat) t, ts[i]? = some t → w'.cell? ⟨g, o + i, none⟩ = some (tval t)) ∧ Below w.heap.size w w'
theorem cells_of_owns {w : World} {base n : Nat} {v : Value} {ts : List TV} (h : w.ownsRow base 35 1 v n (ts.map tval)) (hn : n = ts.length) :
    ∃ A' c', v = .slice A' n c' ∧ (∀ g o, A' = some ⟨g, o, none⟩ → base ≤ g) ∧ (0 < ts.length → ∃ g o, A' = some ⟨g, o, none⟩ ∧ g < w.heap.size ∧ ∀ (i : Nat) t, ts[i]? = some t → w.cell? ⟨g, o + i, none⟩ = some (tval t)) := by
  obtain ⟨h1, ⟨h2, h3⟩ | ⟨g, cap, cur, h2, hb, h3, h4, h5, h6, h7⟩⟩ := h
  · exact ⟨none, 0, by rw [h2, h3], (fun _ _ h => by cases h), fun h => by omega⟩
  · refine ⟨some ⟨g, 0, none⟩, cap, h2, fun g' o' he => ?_, fun _ => ⟨g, 0, rfl, (Array.getElem?_eq_some_iff.1 h3).1, fun i t ht => ?_⟩⟩
    · injection he with he
      injection he with he _ _
      omega
    · have hi : i < ts.length := (List.getElem?_eq_some_iff.1 ht).1
      have hl : cur.toList.length = cap := by simpa using h6
      have e1 : cur.toList[i]? = some (tval t) := by
        have e2 : (cur.toList.take (n * 1))[i]? = (ts.map tval)[i]? := by rw [h7]
        rw [List.getElem?_take, if_pos (by omega), List.getElem?_map, ht] at e2
        exact e2
      rw [Nat.zero_add]
      have e3 : cur[i]? = some (tval t) := by rw [← Array.getElem?_toList]; exact e1
      simp [World.cell?, h3, e3]

set_option maxRecDepth 100000 in
set_option maxHeartbeats 1000000 in
theorem Clone_any (A : Option Addr) (c : Nat) (ts : List TV) (w : World) (hA : A = none → c = 0) (hl : Lst [] w A ts) (hn : ts.length ≤ 2000) :
    Calls Try.prog 76 #[.slice A ts.length c] w fun e w' => ClonePost w ts e w' := by
  cases A with
  | none =>
    have h0 : ts = [] := by
      cases ts with
      | nil => rfl
      | cons t r =>
        obtain ⟨b, o, h, _⟩ := hl.1 (by simp)
        cases h
    subst h0
    obtain rfl := hA rfl
    have k1 : ∀ w, (binOp .eql 31 (.slice none 0 0) (.slice none 0 0)).run Try.prog w = .ok (.bool true) w := fun w => by kernel_rfl
    simp only [List.length_nil]
    go_enter Try.func76, Try.ntmps76
    go_wp2
    go_ret
    exact ⟨none, 0, rfl, (fun _ _ h => by cases h), (fun h => absurd h (by simp)), Below.refl _ _⟩
  | some ad =>
    obtain ⟨i0, hi0, hz0, hzs, hzb⟩ := info_parts infoTup
    have hnews : ∀ j u, (ts.map tval)[j]? = some u → w.cell? (ad.add j) = some u := fun j u hj => by
      rw [List.getElem?_map] at hj
      cases ht : ts[j]? with
      | none => rw [ht] at hj; cases hj
      | some t =>
        rw [ht] at hj
        cases hj
        have hjl : j < ts.length := (List.getElem?_eq_some_iff.1 ht).1
        obtain ⟨b, o, h1, h2, _, h3⟩ := hl.1 (by omega)
        injection h1 with h1
        subst h1
        rw [Addr.add_lit]
        exact h3 j t ht
    have HN := Lib.hid (fun j u hj => (((Below.refl w.heap.size w).alloc (o := .cells #[] 35) (Nat.le_refl _)).cell (p := ad.add j) (World.block_lt_of_cell? w _ (hnews j u hj))).trans (hnews j u hj))
    have HO := Lib.hid (World.ownsRow_made (e := 35) (size := 1) w #[] 0 (Nat.le_refl w.heap.size) (by unfold maxLen; omega) rfl)
    have HT := Lib.hid (one_tvals ts)
    have k1 : ∀ w, (binOp .eql 31 (.slice (some ad) ts.length c) (.slice none 0 0)).run Try.prog w = .ok (.bool false) w := fun w => by kernel_rfl
    clear hl hnews hA
    go_enter Try.func76, Try.ntmps76
    go_wp2_with (at_builtin; refine wpList_append_own _ rfl _ _ 31 rfl w.heap.size 35 i0 _ 1 24 Try.underlying31 hi0 hz0 hzs hzb rfl (by decide) _ 0 [] rfl HO.out ad ts.length c (ts.map tval) rfl (by simp) HN.out HT.out ?b1 ?b2 ?b3 ?_)
    case b1 => unfold maxLen; omega
    case b2 => omega
    case b3 => simp
    intro v' w1 ho hg _
    obtain ⟨A', c', rfl, hnew, hcs⟩ := cells_of_owns ho rfl
    have HQ : Hid (ClonePost w ts (.returned (.slice A' ts.length c')) w1) := ⟨A', c', rfl, hnew, hcs, ((Below.refl w.heap.size w).alloc (Nat.le_refl _) _).grown hg (by simp) (fun k hk => by cases hk; simp)⟩
    clear hi0 hz0 hzs hzb ho hg hnew hcs
    go_wp2
    go_ret
    exact HQ.out

/-- the blocks that a loop's body may turn: Z, the box B, and the row that the box's cell i names. -/
def footL (Z : List Nat) (B i : Nat) (W : World) : List Nat :=
  Z ++ B :: (match W.cell? ⟨B, i, none⟩ with | some (.slice (some a) _ _) => [a.block] | _ => [])
/-- what a body that turns these alone keeps. -/
structure Kf (Z : List Nat) (B i : Nat) (w w' : World) : Prop where
  os : w'.os = w.os
  tape : w'.tape = w.tape
  output : w'.output = w.output
  size : w.heap.size ≤ w'.heap.size
  block : ∀ (k : Nat) (o : Obj), w.heap[k]? = some o → o.isCells = true → k ∉ footL Z B i w → w'.heap[k]? = some o
  sub : Sub (footL Z B i w') (footL Z B i w) w.heap.size
  lt : (∀ k ∈ footL Z B i w, k < w.heap.size) → ∀ k ∈ footL Z B i w', k < w'.heap.size
section
variable {Z : List Nat} {B i : Nat} {w w' X Y W : World}
theorem foot_same (h : Y.cell? ⟨B, i, none⟩ = X.cell? ⟨B, i, none⟩) : footL Z B i Y = footL Z B i X := by unfold footL; rw [h]
theorem Kf.refl (w : World) : Kf Z B i w w := ⟨rfl, rfl, rfl, Nat.le_refl _, fun _ _ h _ _ => h, Sub.refl _ _, fun h => h⟩
theorem Kf.trans (h : Kf Z B i X Y) (h' : Kf Z B i Y W) : Kf Z B i X W :=
  ⟨h'.os.trans h.os, h'.tape.trans h.tape, h'.output.trans h.output, Nat.le_trans h.size h'.size, fun k o hk ho hn => h'.block k o (h.block k o hk ho hn) ho (fun hm => by
    rcases h.sub k hm with h1 | h1
    · exact hn h1
    · have := (Array.getElem?_eq_some_iff.1 hk).1
      omega), h.sub.trans h'.sub h.size, fun h0 => h'.lt (h.lt h0)⟩
theorem Kf.of_below (h : Below X.heap.size X Y) (hB : B < X.heap.size) : Kf Z B i X Y :=
  ⟨h.os, h.tape, h.output, h.size, fun k _ hk _ _ => (h.block k (Array.getElem?_eq_some_iff.1 hk).1).trans hk, by rw [foot_same (h.cell (p := ⟨B, i, none⟩) hB)]; exact Sub.refl _ _, fun h0 k hk => by rw [foot_same (h.cell (p := ⟨B, i, none⟩) hB)] at hk; exact Nat.lt_of_lt_of_le (h0 k hk) h.size⟩
theorem calm_cell {n : Nat} (h : Calm n X Y) (hB : B < X.heap.size) (hn : B < n) : Y.cell? ⟨B, i, none⟩ = X.cell? ⟨B, i, none⟩ := by
  have h2 : X.heap[B]? = some X.heap[B] := Array.getElem?_eq_getElem hB
  exact World.cell?_of_block (w := X) (a := ⟨B, i, none⟩) ((h.block B _ h2 (.inl hn)).trans h2.symm)
theorem Kf.of_calm {n : Nat} (h : Calm n X Y) (hB : B < X.heap.size) (hn : B < n) : Kf Z B i X Y :=
  ⟨h.os, h.tape, h.output, h.size, fun k o hk ho _ => h.block k o hk (.inr ho), by rw [foot_same (calm_cell h hB hn)]; exact Sub.refl _ _, fun h0 k hk => by rw [foot_same (calm_cell h hB hn)] at hk; exact Nat.lt_of_lt_of_le (h0 k hk) h.size⟩
theorem Kf.of_kept {S : List Nat} (h : Kept S X Y) (hs : ∀ k ∈ S, k ∈ footL Z B i X) (hf : Sub (footL Z B i Y) (footL Z B i X) X.heap.size) (hlt : ∀ k ∈ footL Z B i Y, k < Y.heap.size) : Kf Z B i X Y :=
  ⟨h.os, h.tape, h.output, h.size, fun k _ hk _ hn => (h.block k (Array.getElem?_eq_some_iff.1 hk).1 (fun hm => hn (hs k hm))).trans hk, hf, fun _ => hlt⟩
theorem Kf.calm (h : Kf Z B i X Y) (hf : ∀ k ∈ footL Z B i X, W.heap.size ≤ k) (h0 : Calm 0 W X) : Calm 0 W Y :=
  ⟨h.os.trans h0.os, h.tape.trans h0.tape, h.output.trans h0.output, Nat.le_trans h0.size h.size, fun k o hk ho => by
    have hc : o.isCells = true := by
      rcases ho with h1 | h1
      · omega
      · exact h1
    refine h.block k o (h0.block k o hk ho) hc (fun hm => ?_)
    have := hf k hm
    have := (Array.getElem?_eq_some_iff.1 hk).1
    omega⟩
theorem Kf.cell (h : Kf Z B i X Y) {p : Addr} {v : Value} (hc : X.cell? p = some v) (hn : p.block ∉ footL Z B i X) : Y.cell? p = some v := by
  obtain ⟨o, ho, hcl⟩ := cells_of_cell hc
  exact (World.cell?_of_block (w := X) ((h.block _ _ ho hcl hn).trans ho.symm)).trans hc
theorem Kf.own (h : Kf Z B i X Y) {g : Nat} {e : TypeId} {xs : List Value} (ho : Own X g e xs) (hn : g ∉ footL Z B i X) : Own Y g e xs := h.block _ _ ho rfl hn
theorem RowO.kf {A : Option Addr} {l : List V3} (h : RowO (footL Z B i X) X A l) (hk : Kf Z B i X Y) : RowO (footL Z B i Y) Y A l := fun h0 => by
  obtain ⟨b, o, h1, h2, hn, h3⟩ := h h0
  refine ⟨b, o, h1, Nat.lt_of_lt_of_le h2 hk.size, fun hb => ?_, fun j x hx => ?_⟩
  · rcases hk.sub b hb with h4 | h4
    · exact hn h4
    · omega
  · obtain ⟨c1, c2, c3⟩ := h3 j x hx
    exact ⟨hk.cell c1 hn, hk.cell c2 hn, hk.cell c3 hn⟩
theorem Lst.kf {A : Option Addr} {ts : List TV} (h : Lst (footL Z B i X) X A ts) (hk : Kf Z B i X Y) : Lst (footL Z B i Y) Y A ts := by
  refine ⟨fun h0 => ?_, fun t ht => (h.2 t ht).kf hk⟩
  obtain ⟨b, o, h1, h2, hn, h3⟩ := h.1 h0
  refine ⟨b, o, h1, Nat.lt_of_lt_of_le h2 hk.size, fun hb => ?_, fun j x hx => hk.cell (h3 j x hx) hn⟩
  rcases hk.sub b hb with h4 | h4
  · exact hn h4
  · omega
theorem foot_arr {v : Value} {ts : List TV} {G : List Nat} (Z : List Nat) (hc : W.cell? ⟨B, i, none⟩ = some v) (ha : Arr W v ts G) : footL Z B i W = Z ++ B :: G := by
  unfold footL
  rw [hc]
  rcases ha with ⟨rfl, _, rfl⟩ | ⟨g, sp, rfl, rfl, _⟩ <;> rfl
theorem Calm.trans {n : Nat} (h : Calm n X Y) (h' : Calm n Y W) : Calm n X W :=
  ⟨h'.os.trans h.os, h'.tape.trans h.tape, h'.output.trans h.output, Nat.le_trans h.size h'.size, fun k o hk ho => h'.block k o (h.block k o hk ho) ho⟩
theorem Calm.zero {n : Nat} (h : Calm n X Y) : Calm 0 X Y := ⟨h.os, h.tape, h.output, h.size, fun k o hk ho => h.block k o hk (by
  rcases ho with h1 | h1
  · omega
  · exact .inr h1)⟩
end
end Go.Proofs.Ytbahmkhnnahddaa
