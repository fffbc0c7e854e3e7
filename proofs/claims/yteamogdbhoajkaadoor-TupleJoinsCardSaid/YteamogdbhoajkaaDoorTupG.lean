/- tuple.Text: a row of texts, joined. Conditions: texts of at most 2000 bytes; the library's table. -/
import Derived.Test.YteamogdbhoajkaaDoorTupF
namespace Go.Proofs.YteamogdbhoajkaaDoor
open Go.RowKit Go.Deep

theorem open_join (l : List V3) : (⟨#[40]⟩ : ByteArray) ++ ⟨(Lib.join ((l.map tx).map (·.data.toList)) [44, 32]).toArray⟩ = accT l := by
  apply ByteArray.ext
  apply Array.ext'
  simp [accT, preT, Function.comp_def]
theorem join_size {l : List V3} (h : Short l) (h6 : l.length ≤ 6) : (Lib.join ((l.map tx).map (·.data.toList)) [44, 32]).length ≤ 12012 := by
  have := pre_size l h
  unfold preT at this
  rw [List.map_map]
  change (Lib.join (l.map fun x => (tx x).data.toList) [44, 32]).length ≤ 12012
  omega
theorem own_strings {w : World} {g : Nat} {l : List V3} (h : Own w g 9 (l.map fun x => .string (tx x))) : ∀ (j : Nat) x, (l.map tx)[j]? = some x → w.cell? ⟨g, 0 + j, none⟩ = some (.string x) := by
  intro j x hx
  rw [Nat.zero_add, h.cell]
  rw [List.getElem?_map] at hx ⊢
  cases hl : l[j]? with
  | none => rw [hl] at hx; cases hx
  | some y => rw [hl] at hx; simp only [Option.map_some, Option.some.injEq] at hx ⊢; rw [hx]

set_option maxRecDepth 100000 in
set_option maxHeartbeats 400000 in
theorem TextT_any (A : Option Addr) (c : Nat) (l : List V3) (hl : l.length ≤ maxLen) (hf : Short l) (w : World) (hT : Tab w) (hr : Row w A l) :
    Calls Tryd.prog 13 #[.slice A l.length c] w fun e w' => e = .returned (.string (textT l)) ∧ Below w.heap.size w w' := by
  unfold maxLen at hl
  have HR := Lib.hid hr
  have HF := Lib.hid hf
  have HT := Lib.hid hT
  clear hr hf hT
  go_enter Tryd.func13, Tryd.ntmps13
  go_wp2_with fail
  refine (TRight_any A c l (by unfold maxLen; omega) HF.out.fit _ HR.out).mono ?_
  rintro e w0 ⟨rfl, b0⟩
  have HB0 := Lib.hid b0
  clear b0
  by_cases hrt : rightT l = true
  · have h6 := right_six hrt
    have HX := Lib.hid (show textT l = accT l ++ ⟨#[41]⟩ by simp only [textT, hrt]; rfl)
    rw [hrt]
    clear hrt
    obtain ⟨i, hi, hz, hs, hb⟩ := info_parts infoStr
    go_wp2_with (at_make; refine wpList_make_full _ rfl _ _ 61 rfl w0.heap.size 9 i (.string noText) 1 Tryd.underlying61 hi hz hs .i64 .i64 _ _ l.length rfl rfl rfl rfl ?b1 ?b2 ?b3 ?_)
    case b1 => rw [hb]; omega
    case b2 => unfold maxLen; omega
    case b3 => omega
    intro w1 ho hg
    clear hi hz hs hb
    rw [toList_madeCells_one] at ho
    have HN := Lib.hid HB0.out.size
    have HB1 := Lib.hid (HB0.out.grown hg HN.out (by simp))
    have HO1 := Lib.hid (show Own w1 w0.heap.size 9 ((l.take 0).map (fun x => Value.string (tx x)) ++ List.replicate (l.length - 0) (.string noText)) by simpa using Own.of_row ho rfl)
    clear ho hg
    go_wp2_with fail
    go_loopw [14] (fun i wr => ∃ k : Nat, k ≤ l.length ∧ i = .int .i64 k ∧ Hid (Own wr w0.heap.size 9 ((l.take k).map (fun x => Value.string (tx x)) ++ List.replicate (l.length - k) (.string noText))) ∧ Hid (Below w.heap.size w wr)) (fun i _ => l.length - (intOf i).toNat)
    case atStart => exact ⟨0, Nat.zero_le _, rfl, HO1.out, HB1.out⟩
    case round =>
      obtain ⟨k, hk, rfl, HO, HB⟩ := hrel
      by_cases hlt : k < l.length
      · obtain ⟨b, o, rfl, hbw, hc⟩ := HR.out.at_ hlt
        have hx := HF.out l[k] (List.getElem_mem hlt)
        have HS := Lib.hid (mid_set (fun x : V3 => Value.string (tx x)) (.string noText) hlt)
        generalize l[k] = x at hc hx HS
        obtain ⟨xk, xn, xs⟩ := x
        obtain ⟨c0, c1, c2⟩ := hc
        have c0 := (HB.out.cell hbw).trans c0
        have c1 := (HB.out.cell hbw).trans c1
        have c2 := (HB.out.cell hbw).trans c2
        simp only at c0 c1 c2 hx
        have hm : xs.size ≤ maxLen := by unfold maxLen; omega
        have HQ := HO.out.alloc (.cells #[.int .i64 xk, .int .i64 xn, .string xs] 30)
        have BB := Lib.hid (HB.out.alloc (o := .cells #[.int .i64 xk, .int .i64 xn, .string xs] 30) HB.out.size)
        have HQ := Lib.hid HQ
        go_wp2_with fail
        refine (Text_any xk xn xs _ hm (HT.out.below BB.out)).mono ?_
        rintro e w2 ⟨rfl, b2⟩
        have HO2 := Lib.hid (HQ.out.below b2)
        have B2 := Lib.hid (BB.out.trans (b2.mono BB.out.size))
        clear c0 c1 c2 b2 hbw HO HQ BB HB
        have q0 := (HO2.out.cell k).trans (mid_at _ _ hlt)
        have q1 := HO2.out.frozen k
        have q2 := HO2.out.lt
        go_wp2
        go_roundw
        case rel => exact ⟨k + 1, by omega, by go_num, HS.out ▸ (HO2.out.set k _), B2.out.setCell HN.out _⟩
        case measure => simp [intOf]; omega
      · have hkl : k = l.length := by omega
        subst hkl
        have HQ := HO.out
        simp only [List.take_length, Nat.sub_self, List.replicate_zero, List.append_nil] at HQ
        have hj := Tryd.strings_Join w0.heap.size 0 l.length (l.map tx) ⟨#[44, 32]⟩ wr (own_strings HQ) HQ.lt (by simp; omega) (by simp) (by have := join_size HF.out h6; exact Nat.le_trans this (by omega))
        rw [List.length_map] at hj
        have HJ := Lib.hid hj
        clear hj HQ
        go_wp2_with fail
        refine HJ.out.mono ?_
        rintro e w2 ⟨rfl, b2⟩
        have B2 := Lib.hid (HB.out.trans (b2.mono HB.out.size))
        clear b2 HO HJ
        have HZ := Lib.hid (open_join l)
        have hz := join_size HF.out h6
        have hsz : (⟨(Lib.join ((l.map tx).map (·.data.toList)) [44, 32]).toArray⟩ : ByteArray).size ≤ 12012 := by
          show (Lib.join ((l.map tx).map (·.data.toList)) [44, 32]).toArray.size ≤ 12012
          simpa using hz
        clear hz
        generalize (⟨(Lib.join ((l.map tx).map (·.data.toList)) [44, 32]).toArray⟩ : ByteArray) = y at hsz HZ
        have h1 : 1 + y.size ≤ 281474976710656 := by omega
        have h2 : 1 + y.size + 1 ≤ 281474976710656 := by omega
        have HW := Lib.hid (show ⟨#[40]⟩ ++ y ++ ⟨#[41]⟩ = textT l by rw [HX.out, HZ.out])
        go_wp2
        go_ret
        exact ⟨ret_str HW.out, B2.out⟩
  · have HX := Lib.hid (show textT l = noText by simp only [textT, hrt]; rfl)
    have hrt : rightT l = false := by simpa using hrt
    rw [hrt]
    clear hrt
    go_wp2
    go_ret
    exact ⟨ret_str HX.out.symm, HB0.out⟩
end Go.Proofs.YteamogdbhoajkaaDoor
