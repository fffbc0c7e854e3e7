/- What came in: a script of tuples to be added or dropped, read as a list. Conditions: the form's reach. -/
import Derived.Test.YtdgjpikipkjhhaaRelKit
import Derived.Test.YtdgjpikipkjhhaaRelPl
namespace Go.Proofs.Ytdgjpikipkjhhaa
open Go.ChangeShapes Go.WideShapes Go.ChangeAt Go.RowKit Go.Joins Go.Deep

theorem cellsA : Try.prog.cellsOf 37 = 2 := by kernel_rfl
theorem cellsB : Try.prog.cellsOf 4 = 1 := by kernel_rfl
section
variable {H : Type} {enc : TypeId × Value → H} {W : World} {base : Nat} {spare : Nat → Bool} {held : Bool} {b0 : Nat} {r : Reach} {v : Value} {d : DataW H} {p : List MemPlace}

set_option maxRecDepth 100000 in
/-- one act, from its cells' reading. -/
theorem open_act {n : Nat} {a : Addr} {cs : List Value} {x : DataW H × List MemPlace} (hc : W.cells? base a 2 = some cs) (h : DataW.trod enc Try.prog W base spare held n 37 cs = some x) (hs : ∀ n ∈ x.1.weights Try.prog 37, n ≤ reachBytes) :
    ∃ y : AV, W.cell? (a.add 0) = some (tval y.1) ∧ W.cell? (a.add 1) = some (.bool y.2) ∧ (y.1.1 = none → y.1.2.1 = 0) ∧ y.1.2.2.length ≤ maxLen ∧ Row W y.1.1 y.1.2.2 ∧ Inb y.1.2.2 := by
  obtain ⟨_, hlen, hcell⟩ := World.cells?_some hc
  obtain ⟨xs, k, _, hxy, _, hxl, hf⟩ := DataW.trod_struct Try.underlying37 h
  match xs, hxl, cs, hlen with
  | [y0, y1], _, [v0, v1], _ =>
    have g0 := hf 0 _ rfl
    have g1 := hf 1 _ rfl
    simp [cellsT, cellsB] at g0 g1
    obtain ⟨b, e1, _, _⟩ := DataW.trod_bool Try.underlying4 g1
    simp at e1
    subst e1
    obtain ⟨A, c, l, h1, h2, h3, h4, h5⟩ := open_row (W := W) g0 (fun k hk => hs _ (by
      subst hxy
      simp only [List.map_cons, List.map_nil, DataW.weights, Try.underlying37]
      simp only [DataW.weightsEach, List.mem_append]
      exact .inl hk))
    injection h1 with h1 _
    subst h1
    have c0 := hcell 0 (by omega)
    have c1 := hcell 1 (by omega)
    exact ⟨((A, c, l), b), by simpa using c0, by simpa using c1, h2, h3, h4, h5⟩

set_option maxRecDepth 100000 in
/-- a script among the arguments. -/
theorem open_acts (hv : Value.okWide Try.prog W r b0 22 v) (h : DataW.Trod enc Try.prog W base spare held 22 v d p) (hs : ∀ n ∈ d.weights Try.prog 22, n ≤ reachBytes) :
    ∃ (A : Option Addr) (c : Nat) (xs : List AV), v = .slice A xs.length c ∧ ActL W A xs := by
  obtain ⟨a0, len0, cap0, rfl⟩ := okWide_slice Try.underlying22 hv
  obtain ⟨fuel, hf⟩ := h
  have hf : DataW.trod enc Try.prog W base spare held fuel 22 [.slice a0 len0 cap0] = some (d, p) := hf
  rcases open_slice Try.underlying22 hf with ⟨hcs, _⟩ | ⟨a, len, cap, m, n, D, Pl, hcs, _, hlc, hcm, hm, hx, hi⟩
  · injection hcs with hcs _
    injection hcs with e1 e2 e3
    subst e1 e2 e3
    exact ⟨none, 0, [], rfl, ⟨fun h => absurd h (by simp), (fun t ht => by cases ht), Nat.zero_le _⟩⟩
  · injection hcs with hcs _
    injection hcs with e1 e2 e3
    subst e1 e2 e3
    have hlm : len0 ≤ m := by rw [hm]; split <;> omega
    rw [cellsA] at hi
    have each : ∀ i, i < len0 → ∃ y : AV, W.cell? ((a.add (i * 2)).add 0) = some (tval y.1) ∧ W.cell? ((a.add (i * 2)).add 1) = some (.bool y.2) ∧ (y.1.1 = none → y.1.2.1 = 0) ∧ y.1.2.2.length ≤ maxLen ∧ Row W y.1.1 y.1.2.2 ∧ Inb y.1.2.2 := by
      intro i hil
      obtain ⟨cs', hc', ht'⟩ := hi i (by omega)
      exact open_act hc' ht' (fun k hk => hs _ (by
        injection hx with hd _
        subst hd
        simp only [DataW.weights, Try.underlying22, List.mem_cons, List.mem_append]
        exact .inr (.inl (weights_all (List.mem_map.2 ⟨i, List.mem_range.2 hil, rfl⟩) hk))))
    obtain ⟨f, hf⟩ := choose_lt each
    have hlen : ((List.range len0).map f).length = len0 := by simp
    refine ⟨some a, cap0, (List.range len0).map f, by rw [hlen], fun h0 => ?_, fun t ht => ?_, by rw [hlen]; omega⟩
    · rw [hlen] at h0
      have h00 := (hf 0 h0).1
      rw [Go.Deep.add_add] at h00
      obtain ⟨hs0, hb0⟩ := cell_plain h00
      obtain ⟨ab, ao, asp⟩ := a
      have hsp : asp = none := by simpa [Addr.add] using hs0
      subst hsp
      refine ⟨ab, ao, rfl, by simpa [Addr.add] using hb0, fun i y hy => ?_⟩
      rw [List.getElem?_map] at hy
      have hil : i < len0 := by
        rcases Nat.lt_or_ge i len0 with h | h
        · exact h
        · rw [List.getElem?_eq_none (by simpa using h)] at hy; cases hy
      rw [List.getElem?_range hil] at hy
      simp only [Option.map_some, Option.some.injEq] at hy
      subst hy
      obtain ⟨k0, k1, _⟩ := hf i hil
      rw [Go.Deep.add_add, add_at] at k0 k1
      exact ⟨k0, k1⟩
    · obtain ⟨i, hir, rfl⟩ := List.mem_map.1 ht
      obtain ⟨_, _, h2, h3, h4, h5⟩ := hf i (List.mem_range.1 hir)
      exact ⟨h4, h2, h5, h3⟩
end
end Go.Proofs.Ytdgjpikipkjhhaa
