/- The document's own Pick. Conditions: at most 50 columns. -/
import Derived.Test.YtbahmkhnnahddaaTupQ
namespace Go.Proofs.Ytbahmkhnnahddaa
open Go.RowKit Go.Deep

theorem pick_snoc (l : List V3) (cs : List Int) {k : Nat} (hk : k < cs.length) : pickT l (cs.take (k + 1)) = pickT l (cs.take k) ++ [l.getD cs[k].toNat zeroV] := by
  unfold pickT
  rw [List.take_succ_eq_append_getElem hk, List.map_append]
  rfl
theorem nobad_snoc {n : Nat} {cs : List Int} {k : Nat} (hk : k < cs.length) (h : (cs.take k).any (badC n) = false) (hx : badC n cs[k] = false) : (cs.take (k + 1)).any (badC n) = false := by
  rw [List.take_succ_eq_append_getElem hk, List.any_append, h]
  simpa using hx
theorem bad_at {n : Nat} {cs : List Int} {k : Nat} (hk : k < cs.length) (hx : badC n cs[k] = true) : cs.any (badC n) = true := List.any_eq_true.2 ⟨_, List.getElem_mem hk, hx⟩

/-- what the document's Pick hands back. -/
def RefP (w : World) (l : List V3) (cs : List Int) (e : Ending) (w' : World) : Prop :=
  (cs.any (badC l.length) = true → e = .returned (.tuple #[.slice none 0 0, .int .i64 1])) ∧
  (cs.any (badC l.length) = false → 6 < cs.length → e = .returned (.tuple #[.slice none 0 0, .int .i64 6])) ∧
  (cs.any (badC l.length) = false → ¬ 6 < cs.length → ∃ A c, e = .returned (.tuple #[.slice A (pickT l cs).length c, .int .i64 0]) ∧ Row w' A (pickT l cs)) ∧ Below w.heap.size w w'

theorem RefP.range {w w' : World} {l : List V3} {cs : List Int} (h : cs.any (badC l.length) = true) (hb : Below w.heap.size w w') : RefP w l cs (.returned (.tuple #[.slice none 0 0, .int .i64 1])) w' := by
  refine ⟨fun _ => rfl, fun h' => ?_, fun h' => ?_, hb⟩
  · rw [h] at h'; cases h'
  · rw [h] at h'; cases h'
theorem RefP.arity {w w' : World} {l : List V3} {cs : List Int} (h : cs.any (badC l.length) = false) (h6 : 6 < cs.length) (hb : Below w.heap.size w w') : RefP w l cs (.returned (.tuple #[.slice none 0 0, .int .i64 6])) w' := by
  refine ⟨fun h' => ?_, fun _ _ => rfl, fun _ h' => absurd h6 h', hb⟩
  rw [h] at h'; cases h'
theorem RefP.ok {w w' : World} {l : List V3} {cs : List Int} {A : Option Addr} {c : Nat} (h : cs.any (badC l.length) = false) (h6 : ¬ 6 < cs.length) (hr : Row w' A (pickT l cs)) (hb : Below w.heap.size w w') :
    RefP w l cs (.returned (.tuple #[.slice A cs.length c, .int .i64 0])) w' := by
  refine ⟨fun h' => ?_, fun _ h' => absurd h' h6, fun _ _ => ⟨A, c, by rw [pick_len], hr⟩, hb⟩
  rw [h] at h'; cases h'

set_option maxRecDepth 100000 in
set_option maxHeartbeats 1000000 in
theorem refPick_any (A : Option Addr) (c : Nat) (l : List V3) (C : Option Addr) (cc : Nat) (cs : List Int) (h50 : cs.length ≤ 50) (_hll : l.length ≤ maxLen) (w : World) (hrl : Row w A l) (hr : Cols w C cs) :
    Calls Try.prog 57 #[.slice A l.length c, .slice C cs.length cc] w fun e w' => RefP w l cs e w' := by
  unfold maxLen at _hll
  have HR := Lib.hid hr
  have HRL := Lib.hid hrl
  clear hr hrl
  obtain ⟨i, hi, hz, hs, hby⟩ := info_parts infoVal
  have HI := Lib.hid hi
  have HZ := Lib.hid hz
  have HS := Lib.hid hs
  have HBY := Lib.hid hby
  clear hi hz hs hby
  go_enter Try.func57, Try.ntmps57
  go_wp2
  go_loopw [6, 7] (fun v j wr => ∃ k : Nat, k ≤ cs.length ∧ j = .int .i64 k ∧ Hid ((cs.take k).any (badC l.length) = false) ∧ (∃ A' c', v = .slice A' k c' ∧ Hid (wr.ownsRow w.heap.size 48 3 (.slice A' k c') k (flat (pickT l (cs.take k))))) ∧ Hid (Below w.heap.size w wr)) (fun _ j _ => cs.length - (intOf j).toNat)
  case atStart => exact ⟨0, Nat.zero_le _, rfl, rfl, ⟨none, 0, rfl, World.ownsRow_nil _ _ _ _⟩, Below.refl _ _⟩
  case round =>
    obtain ⟨k, hk, rfl, HN, ⟨A', c', rfl, HO⟩, HB⟩ := hrel
    by_cases hlt : k < cs.length
    · obtain ⟨gc, oc, rfl, hgc, hcc⟩ := HR.out.at_ hlt
      have hcc := (HB.out.cell hgc).trans hcc
      have HP := Lib.hid (pick_snoc l cs hlt)
      have HNN := Lib.hid (fun h => nobad_snoc hlt HN.out h)
      have HBA := Lib.hid (fun h => bad_at (n := l.length) hlt h)
      generalize cs[k] = z at hcc HP HNN HBA
      by_cases h1 : z < 0
      · have HQ := Lib.hid (HBA.out (by simp [badC, h1]))
        clear HP HNN HBA
        go_wp2
        refine bodyPost_ret (v := .tuple #[.slice none 0 0, .int .i64 1]) (by simp [results, Try.results57, go_sem]) rfl (RefP.range HQ.out HB.out)
      · by_cases h2 : (l.length : Int) ≤ z
        · have HQ := Lib.hid (HBA.out (by simp [badC, h2]))
          clear HP HNN HBA
          go_wp2
          refine bodyPost_ret (v := .tuple #[.slice none 0 0, .int .i64 1]) (by simp [results, Try.results57, go_sem]) rfl (RefP.range HQ.out HB.out)
        · obtain ⟨m, rfl⟩ : ∃ m : Nat, z = (m : Int) := ⟨z.toNat, by omega⟩
          have hml : m < l.length := by omega
          have HQ := Lib.hid (HNN.out (by simp only [badC, h1, h2]; rfl))
          clear HNN HBA
          obtain ⟨b, o, rfl, hbw, hc⟩ := HRL.out.at_ hml
          have hgd : l.getD ((m : Int)).toNat zeroV = l[m] := by simp [List.getD, hml]
          rw [hgd] at HP
          clear hgd
          generalize l[m] = x at hc HP
          obtain ⟨xk, xn, xs⟩ := x
          obtain ⟨c0, c1, c2⟩ := hc
          have c0 := (HB.out.cell hbw).trans c0
          have c1 := (HB.out.cell hbw).trans c1
          have c2 := (HB.out.cell hbw).trans c2
          simp only at c0 c1 c2
          have hml' : (m : Int) < (l.length : Int) := by omega
          have HOW := Lib.hid (HO.out.alloc (.cells #[.int .i64 xk, .int .i64 xn, .string xs] 48))
          have HSZ := Lib.hid HB.out.size
          go_wp2_with (at_builtin; refine wpList_append_own _ rfl (.tmp 28) (.tmp 36) 35 rfl w.heap.size 48 i _ 3 32 Try.underlying35 HI.out HZ.out HS.out HBY.out rfl (by decide) _ k _ rfl HOW.out ⟨wr.heap.size, 0, none⟩ 1 1 (flat [(xk, xn, xs)]) rfl rfl ?d1 (flat_one _) ?d2 ?d3 ?d4 ?_)
          case d1 =>
            intro j u hu
            match j, hu with
            | 0, hu => simp [flat] at hu; subst hu; go_simp
            | 1, hu => simp [flat] at hu; subst hu; go_simp
            | 2, hu => simp [flat] at hu; subst hu; go_simp
          case d2 => unfold maxLen; omega
          case d3 => omega
          case d4 => have := HSZ.out; simp; omega
          intro v' w1 ho hg _
          rw [← flat_append, ← HP.out] at ho
          obtain ⟨A2, c2', rfl⟩ : ∃ A2 c2', v' = .slice A2 (k + 1) c2' := by
            rcases ho.2 with ⟨_, h0⟩ | ⟨g, cap, cur, h, _⟩
            · exact absurd h0 (by omega)
            · exact ⟨_, cap, h⟩
          have HO1 := Lib.hid ho
          have HB1 := Lib.hid ((HB.out.alloc (o := .cells #[.int .i64 xk, .int .i64 xn, .string xs] 48) HB.out.size).grown hg (by have := HSZ.out; simp; omega) (by
            intro g hgg
            rcases HO.out.2 with ⟨h, _⟩ | ⟨g', cap, cur, h, hg', _⟩
            · injection h with h; subst h; cases hgg
            · injection h with h; subst h; simp [Value.ownBlock] at hgg; omega))
          clear ho hg c0 c1 c2 HOW HO HB hcc
          go_wp2
          go_roundw
          case rel => exact ⟨k + 1, by omega, by go_num, HQ.out, ⟨A2, c2', rfl, HO1.out⟩, HB1.out⟩
          case measure => simp [intOf]; omega
    · have hkl : k = cs.length := by omega
      subst hkl
      have HNb := HN.out
      have HOO := HO.out
      rw [List.take_length] at HNb HOO
      by_cases h6 : (6 : Int) < (cs.length : Int)
      · have HNN := Lib.hid HNb
        clear HNb HOO
        go_wp2
        refine bodyPost_ret (v := .tuple #[.slice none 0 0, .int .i64 6]) (by simp [results, Try.results57, go_sem]) rfl (RefP.arity HNN.out (by omega) HB.out)
      · have HNN := Lib.hid HNb
        have HRow := Lib.hid (Row.own HOO).2.2
        clear HNb HOO
        go_wp2
        refine bodyPost_ret (v := .tuple #[.slice A' cs.length c', .int .i64 0]) (by simp [results, Try.results57, go_sem]) rfl (RefP.ok HNN.out (by omega) HRow.out HB.out)
end Go.Proofs.Ytbahmkhnnahddaa
