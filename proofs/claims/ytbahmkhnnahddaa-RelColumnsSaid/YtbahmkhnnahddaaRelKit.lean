/- What came in: a tuple, numbers, read as lists. Conditions: the form's reach. -/
import Derived.Test.YtbahmkhnnahddaaRows
import Derived.Test.YtbahmkhnnahddaaRelZ
import Derived.Test.YtbahmkhnnahddaaLawKit
import Derived.Deep.Slices
import Derived.SizedLaws
namespace Go.Proofs.Ytbahmkhnnahddaa
open Go.ChangeShapes Go.WideShapes Go.ChangeAt Go.RowKit Go.Joins Go.Deep

theorem weights_all {H : Type} {P : Program} {e : TypeId} {d : DataW H} {n : Nat} : ∀ {ds : List (DataW H)}, d ∈ ds → n ∈ d.weights P e → n ∈ DataW.weightsAll P e ds
  | x :: r, hd, hn => by
    simp only [DataW.weightsAll, List.mem_append]
    rcases List.mem_cons.1 hd with rfl | hd
    · exact .inl hn
    · exact .inr (weights_all hd hn)
theorem cell_plain {w : World} {a : Addr} {v : Value} (h : w.cell? a = some v) : a.spot = none ∧ a.block < w.heap.size := by
  have hb := World.block_lt_of_cell? w a h
  refine ⟨?_, hb⟩
  unfold World.cell? at h
  split at h
  · split at h
    · cases h
    · rename_i hs
      simpa using hs
  · cases h
theorem add_at {b o n : Nat} : Addr.add ⟨b, o, none⟩ n = ⟨b, o + n, none⟩ := by
  unfold Addr.add
  split
  · subst n; rfl
  · rfl
theorem cellsV : Try.prog.cellsOf 48 = 3 := by kernel_rfl
theorem cellsK : Try.prog.cellsOf 46 = 1 := by kernel_rfl
theorem cellsN : Try.prog.cellsOf 3 = 1 := by kernel_rfl
theorem cellsT : Try.prog.cellsOf 35 = 1 := by kernel_rfl
theorem cellsS : Try.prog.cellsOf 9 = 1 := by kernel_rfl

section
variable {H : Type} {enc : TypeId × Value → H} {W : World} {base : Nat} {spare : Nat → Bool} {held : Bool} {b0 : Nat} {r : Reach} {v : Value} {d : DataW H} {p : List MemPlace}

set_option maxRecDepth 100000 in
/-- one value of a tuple, from its cells' reading. -/
theorem open_three {n : Nat} {a : Addr} {cs : List Value} {x : DataW H × List MemPlace} (hc : W.cells? base a 3 = some cs) (h : DataW.trod enc Try.prog W base spare held n 48 cs = some x) :
    ∃ y : V3, W.cell? (a.add 0) = some (.int .i64 y.1) ∧ W.cell? (a.add 1) = some (.int .i64 y.2.1) ∧ W.cell? (a.add 2) = some (.string y.2.2) ∧ y.2.2.size ∈ x.1.weights Try.prog 48 := by
  obtain ⟨_, hlen, hcell⟩ := World.cells?_some hc
  obtain ⟨xs, k, _, hxy, _, hxl, hf⟩ := DataW.trod_struct Try.underlying48 h
  match xs, hxl, cs, hlen with
  | [y0, y1, y2], _, [v0, v1, v2], _ =>
    have g0 := hf 0 _ rfl
    have g1 := hf 1 _ rfl
    have g2 := hf 2 _ rfl
    simp [cellsK, cellsN, cellsS] at g0 g1 g2
    obtain ⟨k0, e0, _, _⟩ := DataW.trod_int Try.underlying46 g0
    obtain ⟨k1, e1, _, _⟩ := DataW.trod_int Try.underlying3 g1
    obtain ⟨s2, e2, e3, _⟩ := DataW.trod_string Try.underlying9 g2
    simp at e0 e1 e2
    subst e0 e1 e2
    have c0 := hcell 0 (by omega)
    have c1 := hcell 1 (by omega)
    have c2 := hcell 2 (by omega)
    refine ⟨(k0, k1, s2), by simpa using c0, by simpa using c1, by simpa using c2, ?_⟩
    subst hxy
    simp only [List.map_cons, List.map_nil, DataW.weights, Try.underlying48]
    rw [e3]
    simp [DataW.weightsEach, DataW.weights]

set_option maxRecDepth 100000 in
/-- a tuple, from its cell's reading. -/
theorem open_row {fuel : Nat} {csv : List Value} (hf : DataW.trod enc Try.prog W base spare held fuel 35 csv = some (d, p)) (hs : ∀ n ∈ d.weights Try.prog 35, n ≤ reachBytes) :
    ∃ (A : Option Addr) (c : Nat) (l : List V3), csv = [.slice A l.length c] ∧ (A = none → c = 0) ∧ l.length ≤ maxLen ∧ Row W A l ∧ Inb l := by
  rcases open_slice Try.underlying35 hf with ⟨hcs, _⟩ | ⟨a, len0, cap0, m, n, D, Pl, hcs, _, hlc, hcm, hm, hx, hi⟩
  · subst hcs
    exact ⟨none, 0, [], rfl, fun _ => rfl, Nat.zero_le _, Row.nil _ _, fun x hx => by cases hx⟩
  · subst hcs
    have hlm : len0 ≤ m := by rw [hm]; split <;> omega
    rw [cellsV] at hi
    have each : ∀ i, i < len0 → ∃ y : V3, W.cell? ((a.add (i * 3)).add 0) = some (.int .i64 y.1) ∧ W.cell? ((a.add (i * 3)).add 1) = some (.int .i64 y.2.1) ∧ W.cell? ((a.add (i * 3)).add 2) = some (.string y.2.2) ∧ y.2.2.size ≤ 140737488351232 := by
      intro i hil
      obtain ⟨cs', hc', ht'⟩ := hi i (by omega)
      obtain ⟨y, k0, k1, k2, k3⟩ := open_three hc' ht'
      refine ⟨y, k0, k1, k2, hs _ ?_⟩
      injection hx with hd _
      subst hd
      simp only [DataW.weights, Try.underlying35, List.mem_cons, List.mem_append]
      exact .inr (.inl (weights_all (List.mem_map.2 ⟨i, List.mem_range.2 hil, rfl⟩) k3))
    obtain ⟨f, hf⟩ := choose_lt each
    have hlen : ((List.range len0).map f).length = len0 := by simp
    refine ⟨some a, cap0, (List.range len0).map f, (by rw [hlen]), (fun h => by cases h), by rw [hlen]; omega, fun h0 => ?_, fun x hx => ?_⟩
    · rw [hlen] at h0
      have h00 := (hf 0 h0).1
      rw [Go.Deep.add_add] at h00
      obtain ⟨hs0, hb0⟩ := cell_plain h00
      obtain ⟨ab, ao, asp⟩ := a
      have hsp : asp = none := by simpa [Addr.add] using hs0
      subst hsp
      refine ⟨ab, ao, rfl, by simpa [Addr.add] using hb0, fun i y hy => ?_⟩
      rw [List.getElem?_map] at hy
      have hil : i < len0 := by
        rcases Nat.lt_or_ge i len0 with h | h
        · exact h
        · rw [List.getElem?_eq_none (by simpa using h)] at hy; cases hy
      rw [List.getElem?_range hil] at hy
      simp only [Option.map_some, Option.some.injEq] at hy
      subst hy
      obtain ⟨k0, k1, k2, _⟩ := hf i hil
      rw [Go.Deep.add_add, add_at] at k0 k1 k2
      exact ⟨k0, k1, k2⟩
    · obtain ⟨i, hir, rfl⟩ := List.mem_map.1 hx
      exact (hf i (List.mem_range.1 hir)).2.2.2

set_option maxRecDepth 100000 in
/-- a tuple among the arguments. -/
theorem open_tuple (hv : Value.okWide Try.prog W r b0 35 v) (h : DataW.Trod enc Try.prog W base spare held 35 v d p) (hs : ∀ n ∈ d.weights Try.prog 35, n ≤ reachBytes) :
    ∃ (A : Option Addr) (c : Nat) (l : List V3), v = .slice A l.length c ∧ (A = none → c = 0) ∧ l.length ≤ maxLen ∧ Row W A l ∧ Inb l := by
  obtain ⟨a0, len0, cap0, rfl⟩ := okWide_slice Try.underlying35 hv
  obtain ⟨fuel, hf⟩ := h
  obtain ⟨A, c, l, h1, h2⟩ := open_row (csv := [.slice a0 len0 cap0]) hf hs
  injection h1 with h1 _
  exact ⟨A, c, l, h1, h2⟩

set_option maxRecDepth 100000 in
/-- a list of tuples among the arguments. -/
theorem open_list (hv : Value.okWide Try.prog W r b0 31 v) (h : DataW.Trod enc Try.prog W base spare held 31 v d p) (hs : ∀ n ∈ d.weights Try.prog 31, n ≤ reachBytes) :
    ∃ (A : Option Addr) (c : Nat) (xs : List TV), v = .slice A xs.length c ∧ InL W A xs := by
  obtain ⟨a0, len0, cap0, rfl⟩ := okWide_slice Try.underlying31 hv
  obtain ⟨fuel, hf⟩ := h
  have hf : DataW.trod enc Try.prog W base spare held fuel 31 [.slice a0 len0 cap0] = some (d, p) := hf
  rcases open_slice Try.underlying31 hf with ⟨hcs, _⟩ | ⟨a, len, cap, m, n, D, Pl, hcs, _, hlc, hcm, hm, hx, hi⟩
  · injection hcs with hcs _
    injection hcs with e1 e2 e3
    subst e1 e2 e3
    exact ⟨none, 0, [], rfl, ⟨Lst.nil _ _ _, (fun t ht => by cases ht), (fun t ht => by cases ht), Nat.zero_le _⟩⟩
  · injection hcs with hcs _
    injection hcs with e1 e2 e3
    subst e1 e2 e3
    have hlm : len0 ≤ m := by rw [hm]; split <;> omega
    rw [cellsT] at hi
    have each : ∀ i, i < len0 → ∃ t : TV, W.cell? ((a.add (i * 1)).add 0) = some (tval t) ∧ (t.1 = none → t.2.1 = 0) ∧ t.2.2.length ≤ maxLen ∧ Row W t.1 t.2.2 ∧ Inb t.2.2 := by
      intro i hil
      obtain ⟨cs', hc', ht'⟩ := hi i (by omega)
      obtain ⟨A, c, l, h1, h2, h3, h4, h5⟩ := open_row (W := W) ht' (fun k hk => hs _ (by
        injection hx with hd _
        subst hd
        simp only [DataW.weights, Try.underlying31, List.mem_cons, List.mem_append]
        exact .inr (.inl (weights_all (List.mem_map.2 ⟨i, List.mem_range.2 hil, rfl⟩) hk))))
      obtain ⟨_, hlen, hcell⟩ := World.cells?_some hc'
      subst h1
      exact ⟨(A, c, l), by have := hcell 0 (by simp); simpa using this, h2, h3, h4, h5⟩
    obtain ⟨f, hf⟩ := choose_lt each
    have hlen : ((List.range len0).map f).length = len0 := by simp
    have hmem : ∀ t ∈ (List.range len0).map f, ∃ i, i < len0 ∧ f i = t := fun t ht => by
      obtain ⟨i, hir, he⟩ := List.mem_map.1 ht
      exact ⟨i, List.mem_range.1 hir, he⟩
    refine ⟨some a, cap0, (List.range len0).map f, by rw [hlen], ⟨⟨fun h0 => ?_, fun t ht => ?_⟩, fun t ht => ?_, fun t ht => ?_, by rw [hlen]; omega⟩⟩
    · rw [hlen] at h0
      have h00 := (hf 0 h0).1
      rw [Go.Deep.add_add] at h00
      obtain ⟨hs0, hb0⟩ := cell_plain h00
      obtain ⟨ab, ao, asp⟩ := a
      have hsp : asp = none := by simpa [Addr.add] using hs0
      subst hsp
      refine ⟨ab, ao, rfl, by simpa [Addr.add] using hb0, List.not_mem_nil, fun i y hy => ?_⟩
      rw [List.getElem?_map] at hy
      have hil : i < len0 := by
        rcases Nat.lt_or_ge i len0 with h | h
        · exact h
        · rw [List.getElem?_eq_none (by simpa using h)] at hy; cases hy
      rw [List.getElem?_range hil] at hy
      simp only [Option.map_some, Option.some.injEq] at hy
      subst hy
      have k0 := (hf i hil).1
      rw [Go.Deep.add_add, add_at, Nat.mul_one, Nat.add_zero] at k0
      exact k0
    · obtain ⟨i, hil, rfl⟩ := hmem t ht
      exact ((hf i hil).2.2.2.1).off (fun _ h => by cases h)
    · obtain ⟨i, hil, rfl⟩ := hmem t ht
      exact ⟨(hf i hil).2.2.2.2, (hf i hil).2.2.1⟩
    · obtain ⟨i, hil, rfl⟩ := hmem t ht
      exact (hf i hil).2.1

set_option maxRecDepth 100000 in
/-- numbers among the arguments. -/
theorem open_cols (hv : Value.okWide Try.prog W r b0 63 v) (h : DataW.Trod enc Try.prog W base spare held 63 v d p) :
    ∃ (A : Option Addr) (c : Nat) (cs : List Int), v = .slice A cs.length c ∧ cs.length ≤ maxLen ∧ Cols W A cs := by
  obtain ⟨a0, len0, cap0, rfl⟩ := okWide_slice Try.underlying63 hv
  obtain ⟨fuel, hf⟩ := h
  have hf : DataW.trod enc Try.prog W base spare held fuel 63 [.slice a0 len0 cap0] = some (d, p) := hf
  rcases open_ints Try.underlying63 Try.underlying3 cellsN hf with ⟨hcs, _⟩ | ⟨a, len, cap, zs, hcs, _, hlc, hcm, hzl, _, hcells, _⟩
  · injection hcs with hcs _
    injection hcs with e1 e2 e3
    subst e1 e2 e3
    exact ⟨none, 0, [], rfl, Nat.zero_le _, fun h => absurd h (by simp)⟩
  · injection hcs with hcs _
    injection hcs with e1 e2 e3
    subst e1 e2 e3
    have hlz : len0 ≤ zs.length := by rw [hzl]; split <;> omega
    have hlen : (zs.take len0).length = len0 := by rw [List.length_take]; omega
    refine ⟨some a, cap0, zs.take len0, by rw [hlen], by rw [hlen]; omega, fun h0 => ?_⟩
    rw [hlen] at h0
    have h00 := hcells 0 (by omega)
    obtain ⟨hs0, hb0⟩ := cell_plain h00
    obtain ⟨ab, ao, asp⟩ := a
    have hsp : asp = none := by simpa [Addr.add] using hs0
    subst hsp
    refine ⟨ab, ao, rfl, by simpa [Addr.add] using hb0, fun i z hz => ?_⟩
    have hil : i < len0 := by
      have := (List.getElem?_eq_some_iff.1 hz).1
      omega
    have k0 := hcells i (by omega)
    rw [add_at] at k0
    rw [k0]
    rw [List.getElem?_take_of_lt hil] at hz
    simp [List.getD, hz]
end
end Go.Proofs.Ytbahmkhnnahddaa
