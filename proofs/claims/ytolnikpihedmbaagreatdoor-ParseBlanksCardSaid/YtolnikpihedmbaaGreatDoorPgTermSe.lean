/- Package term's Same: lists of expressions. Conditions: none. -/
import Derived.Test.YtolnikpihedmbaaGreatDoorPgV

set_option linter.unusedVariables false
set_option linter.unusedSimpArgs false
namespace Go.Proofs.YtolnikpihedmbaaGreatDoor
open Go.RowKit Go.Deep Go.Shelf

set_option maxRecDepth 100000 in
set_option maxHeartbeats 2000000 in
theorem eqfEx_any (A A' : Option Addr) (c c' : Nat) (l l' : List TEx) (w : World) (hlen : l.length ≤ 140737488351232) (hlen' : l'.length ≤ 140737488351232)
    (hX : ∀ (j : Nat) (h : j < l.length) (h' : j < l'.length), EqX w 6 A A' 65 j (sameE l[j] l'[j])) :
    Calls Tryz.prog 78 #[.slice A l.length c, .slice A' l'.length c', .func (.func 65) #[] #[]] w fun r w' => r = .returned (.bool (allTwo sameE l l')) ∧ Below w.heap.size w w' := by
  have HH := Lib.hid hX
  clear hX
  by_cases hm : l.length = l'.length
  · have e1 : ((l.length : Int) == (l'.length : Int)) = true := by rw [len_beq, decide_eq_true hm]
    have e2 : ((l.length : Int) != (l'.length : Int)) = false := by simp [bne, e1]
    have HM := Lib.hid hm
    clear hm
    go_enter Tryz.func78, Tryz.ntmps78
    go_wp2_with fail
    clear e1 e2
    go_loopw [17] (fun i wr => ∃ j : Nat, j ≤ l.length ∧ i = .int .i64 j ∧ Hid (allTwo sameE l l' = allTwo sameE (l.drop j) (l'.drop j)) ∧ Hid (Below w.heap.size w wr)) (fun i _ => l.length - (intOf i).toNat)
    case atStart => exact ⟨0, Nat.zero_le _, rfl, Lib.hid rfl, Lib.hid (Below.refl _ _)⟩
    case round =>
      obtain ⟨j, hj, rfl, HX, HB⟩ := hrel
      by_cases hlt : j < l.length
      · have hlt' : j < l'.length := by rw [← HM.out]; exact hlt
        obtain ⟨b1, o1, b2, o2, cs, ds, rfl, rfl, hb1, hb2, hl1, hl2, hn1, hn2, hc1, hc2, hcall⟩ := HH.out j hlt hlt'
        have HE := Lib.hid (HX.out.trans (two_step hlt hlt'))
        have hli : (0 : Int) ≤ (j : Int) := by omega
        have hlj : (j : Int) < (l.length : Int) := by omega
        have hlj' : (j : Int) < (l'.length : Int) := by omega
        have HC1 : Hid (∀ (i : Nat) v, cs[i]? = some v → wr.cell? ⟨b1, o1 + j * 6 + i, none⟩ = some v) := fun i v hv => (HB.out.cell (p := ⟨b1, _, none⟩) hb1).trans (hc1 i v hv)
        have HC2 : Hid (∀ (i : Nat) v, ds[i]? = some v → (wr.alloc (.cells cs.toArray 60)).cell? ⟨b2, o2 + j * 6 + i, none⟩ = some v) := fun i v hv => ((HB.out.alloc HB.out.size _).cell (p := ⟨b2, _, none⟩) hb2).trans (hc2 i v hv)
        have HI1 : Hid ((Tryz.prog.info? 60).map (·.size) = some cs.length) := by show _ = _; rw [hl1]; exact infoTex
        have HI2 : Hid ((Tryz.prog.info? 60).map (·.size) = some cs.toArray.size) := by show _ = _; rw [List.size_toArray, hl1]; exact infoTex
        have HI3 : Hid ((Tryz.prog.info? 60).map (·.size) = some ds.length) := by show _ = _; rw [hl2]; exact infoTex
        have HI4 : Hid ((Tryz.prog.info? 60).map (·.size) = some ds.toArray.size) := by show _ = _; rw [List.size_toArray, hl2]; exact infoTex
        have HS1 : Hid ((6 : Nat) = cs.toArray.size) := by show _ = _; rw [List.size_toArray, hl1]
        have HS2 : Hid ((6 : Nat) = ds.toArray.size) := by show _ = _; rw [List.size_toArray, hl2]
        have HN1 := Lib.hid hn1
        have HN2 := Lib.hid hn2
        have o1' : Own (wr.alloc (.cells cs.toArray 60)) wr.heap.size 60 cs := heap_alloc_new _ _
        have HX1 : Hid (Own ((wr.alloc (.cells cs.toArray 60)).alloc (.cells ds.toArray 60)) wr.heap.size 60 cs) := o1'.alloc _
        have o2' := heap_alloc_new (wr.alloc (.cells cs.toArray 60)) (.cells ds.toArray 60)
        simp only [World.size_alloc] at o2'
        have HX2 : Hid (Own ((wr.alloc (.cells cs.toArray 60)).alloc (.cells ds.toArray 60)) (wr.heap.size + 1) 60 ds) := o2'
        have HW2 : Hid (Below w.heap.size w ((wr.alloc (.cells cs.toArray 60)).alloc (.cells ds.toArray 60))) := (HB.out.alloc HB.out.size _).alloc (by simp; have := HB.out.size; omega) _
        have C := Lib.hid hcall
        clear HX hl1 hl2 hn1 hn2 hc1 hc2 hcall o1' o2'
        generalize sameE l[j] l'[j] = vb at HE C
        go_wp2_with (first
            | (refine wpList_load_at (o := ⟨some 21, _, _, _, _, _⟩) rfl 60 _ rfl b1 (o1 + j * 6) rfl cs HC1.out _ Tryz.underlying60 rfl HI1.out ?_)
            | (refine wpList_load_at (o := ⟨some 25, _, _, _, _, _⟩) rfl 60 _ rfl b2 (o2 + j * 6) rfl ds HC2.out _ Tryz.underlying60 rfl HI3.out ?_)
            | (refine wpList_store_new (o := ⟨none, .store 60 (.tmp 8) _, _, _, _, _⟩) rfl 60 _ _ rfl cs.toArray rfl rfl 60 _ HI2.out HS1.out HN1.out ?_)
            | (refine wpList_store_new2 (o := ⟨none, .store 60 (.tmp 9) _, _, _, _, _⟩) rfl 60 _ _ rfl ds.toArray rfl rfl 60 _ HI4.out HS2.out HN2.out ?_)
            | (refine wpList_load_row (o := ⟨some 27, _, _, _, _, _⟩) rfl 60 _ rfl wr.heap.size rfl 60 cs.toArray (0, 0) _ HX1.out Tryz.underlying60 rfl HI2.out ?_)
            | (refine wpList_load_row (o := ⟨some 28, _, _, _, _, _⟩) rfl 60 _ rfl (wr.heap.size + 1) rfl 60 ds.toArray (0, 0) _ HX2.out Tryz.underlying60 rfl HI4.out ?_))
        refine (C.out _ HW2.out).mono ?_
        rintro r w2 ⟨rfl, hb⟩
        have HBF : Hid (Below w.heap.size w w2) := HW2.out.trans (hb.mono HW2.out.size)
        clear hb C HX1 HX2 HC1 HC2
        cases vb with
        | false =>
          rw [Bool.false_and] at HE
          go_wp2_with fail
          go_ret
          exact ⟨by rw [HE.out]; rfl, HBF.out⟩
        | true =>
          rw [Bool.true_and] at HE
          go_wp2_with fail
          go_roundw
          case rel => exact ⟨j + 1, by omega, by go_num, HE, HBF⟩
          case measure => simp [intOf]; omega
      · have HF : Hid (allTwo sameE l l' = true) := by show _ = _; rw [HX.out]; exact two_end hlt HM.out
        clear HX
        go_wp2_with fail
        go_ret
        exact ⟨by rw [HF.out]; rfl, HB.out⟩
  · have e1 : ((l.length : Int) == (l'.length : Int)) = false := by rw [len_beq, decide_eq_false hm]
    have e2 : ((l.length : Int) != (l'.length : Int)) = true := by simp [bne, e1]
    have HF : Hid (allTwo sameE l l' = false) := by
      show _ = _
      cases hb : allTwo sameE l l' with
      | false => rfl
      | true => exact absurd (two_len hb) hm
    clear hm
    go_enter Tryz.func78, Tryz.ntmps78
    go_wp2_with fail
    go_ret
    exact ⟨by rw [HF.out]; rfl, Below.refl _ _⟩
end Go.Proofs.YtolnikpihedmbaaGreatDoor
