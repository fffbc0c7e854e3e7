/- A tuple's text, by both. Conditions: texts of at most 2000 bytes; the library's table. -/
import Derived.Test.YteamogdbhoajkaaDoorTupE
import Derived.Test.YteamogdbhoajkaaDoorShelf
namespace Go.Proofs.YteamogdbhoajkaaDoor
open Go.RowKit Go.Deep

theorem join_snoc {xs : List (List UInt8)} (y sep : List UInt8) (h : xs ≠ []) : Lib.join (xs ++ [y]) sep = Lib.join xs sep ++ sep ++ y := by
  cases xs with
  | nil => exact absurd rfl h
  | cons x r =>
    rw [List.cons_append, Lib.join_cons, Lib.join_cons]
    simp [Lib.joinTail, List.append_assoc]
/-- the texts, a comma and a blank between. -/
def preT (l : List V3) : List UInt8 := Lib.join (l.map fun x => (tx x).data.toList) [44, 32]
def accT (l : List V3) : ByteArray := ⟨(40 :: preT l).toArray⟩
def textT (l : List V3) : ByteArray := if rightT l = true then accT l ++ ⟨#[41]⟩ else noText
abbrev commaB : ByteArray := ⟨#[44, 32]⟩
theorem acc_first {l : List V3} (hk : 0 < l.length) : accT (l.take (0 + 1)) = accT (l.take 0) ++ tx l[0] := by
  rw [List.take_succ_eq_append_getElem hk]
  apply ByteArray.ext
  apply Array.ext'
  simp [accT, preT, Lib.join_one, Lib.join_nil]
theorem acc_next {l : List V3} {k : Nat} (hk : k < l.length) (h0 : 0 < k) : accT (l.take (k + 1)) = accT (l.take k) ++ commaB ++ tx l[k] := by
  have hne : (l.take k).map (fun x => (tx x).data.toList) ≠ [] := by
    intro h
    have : ((l.take k).map (fun x => (tx x).data.toList)).length = 0 := by rw [h]; rfl
    rw [List.length_map, List.length_take] at this
    omega
  rw [List.take_succ_eq_append_getElem hk]
  apply ByteArray.ext
  apply Array.ext'
  simp only [accT, preT, List.map_append, List.map_cons, List.map_nil]
  rw [join_snoc _ _ hne]
  simp
theorem pre_size : ∀ (l : List V3), Short l → (preT l).length ≤ l.length * 2002
  | [], _ => by simp [preT, Lib.join_nil]
  | x :: r, h => by
    have hx := tx_short (h x (by simp))
    have ht : ∀ (r : List V3), Short r → (Lib.joinTail [44, 32] (r.map fun x => (tx x).data.toList)).length ≤ r.length * 2002 := by
      intro r
      induction r with
      | nil => simp [Lib.joinTail]
      | cons y r ih =>
        intro h
        have hy : (tx y).data.size ≤ 2000 := tx_short (h y (by simp))
        have := ih (fun z hz => h z (by simp [hz]))
        simp only [Lib.joinTail, List.map_cons, List.flatten_cons, List.length_append, List.length_cons, List.length_nil, Array.length_toList] at this ⊢
        omega
    have hr := ht r (fun z hz => h z (by simp [hz]))
    have hx : (tx x).data.size ≤ 2000 := hx
    simp only [preT, List.map_cons, Lib.join_cons, List.length_append, List.length_cons, Array.length_toList]
    omega
theorem acc_size {l : List V3} (h : Short l) : (accT l).size ≤ l.length * 2002 + 1 := by
  have := pre_size l h
  show (40 :: preT l).toArray.size ≤ _
  simp
  omega
theorem Short.take {l : List V3} (h : Short l) (k : Nat) : Short (l.take k) := fun x hx => h x (List.mem_of_mem_take hx)
theorem acc_take {l : List V3} (h : Short l) (k : Nat) (h6 : l.length ≤ 6) : (accT (l.take k)).size ≤ 12013 := by
  have := acc_size (h.take k)
  have h2 : (l.take k).length ≤ l.length := List.length_take_le' _ _
  omega
theorem right_six {l : List V3} (h : rightT l = true) : l.length ≤ 6 := by
  simp only [rightT, Bool.and_eq_true, decide_eq_true_eq] at h
  exact h.1

set_option maxRecDepth 100000 in
set_option maxHeartbeats 400000 in
theorem refTextT_any (A : Option Addr) (c : Nat) (l : List V3) (hl : l.length ≤ maxLen) (hf : Short l) (w : World) (hr : Row w A l) :
    Calls Tryd.prog 14 #[.slice A l.length c] w fun e w' => e = .returned (.string (textT l)) ∧ Below w.heap.size w w' := by
  unfold maxLen at hl
  have HR := Lib.hid hr
  have HF := Lib.hid hf
  clear hr hf
  go_enter Tryd.func14, Tryd.ntmps14
  go_wp2_with fail
  refine (refTRight_any A c l (by unfold maxLen; omega) HF.out.fit _ HR.out).mono ?_
  rintro e w0 ⟨rfl, b0⟩
  have HB0 := Lib.hid b0
  clear b0
  by_cases hrt : rightT l = true
  · have h6 := right_six hrt
    have HX := Lib.hid (show textT l = accT l ++ ⟨#[41]⟩ by simp only [textT, hrt]; rfl)
    rw [hrt]
    clear hrt
    go_wp2
    go_loopw [3, 4] (fun s i wr => ∃ k : Nat, k ≤ l.length ∧ i = .int .i64 k ∧ (∃ y : ByteArray, s = .string y ∧ Hid (y = accT (l.take k))) ∧ Hid (Below w.heap.size w wr)) (fun _ i _ => l.length - (intOf i).toNat)
    case atStart => exact ⟨0, Nat.zero_le _, rfl, ⟨_, rfl, by rfl⟩, HB0.out⟩
    case round =>
      obtain ⟨k, hk, rfl, ⟨y, rfl, HY⟩, HB⟩ := hrel
      have hys : y.size ≤ 12013 := by rw [HY.out]; exact acc_take HF.out k h6
      by_cases hlt : k < l.length
      · obtain ⟨b, o, rfl, hbw, hc⟩ := HR.out.at_ hlt
        have hx := HF.out l[k] (List.getElem_mem hlt)
        have HS0 := Lib.hid (fun h0 : 0 < k => acc_next hlt h0)
        have HS1 : Hid (k = 0 → accT (l.take (k + 1)) = accT (l.take k) ++ tx l[k]) := by
          intro h0
          subst h0
          exact acc_first hlt
        generalize l[k] = x at hc hx HS0 HS1
        obtain ⟨xk, xn, xs⟩ := x
        obtain ⟨c0, c1, c2⟩ := hc
        have c0 := (HB.out.cell hbw).trans c0
        have c1 := (HB.out.cell hbw).trans c1
        have c2 := (HB.out.cell hbw).trans c2
        simp only at c0 c1 c2 hx
        have hm : xs.size ≤ maxLen := by unfold maxLen; omega
        have ht : (textV xk xn xs).size ≤ 2000 := tx_short (x := (xk, xn, xs)) hx
        by_cases h0 : 0 < k
        · have HQ := Lib.hid (show y ++ commaB ++ textV xk xn xs = accT (l.take (k + 1)) by rw [HS0.out h0, HY.out]; rfl)
          have hyc : y.size + 2 ≤ 12015 := by omega
          have hyt : y.size + 2 + (textV xk xn xs).size ≤ 281474976710656 := by omega
          clear HS0 HS1
          go_wp2_with fail
          refine (refText_any xk xn xs _ hm).mono ?_
          rintro e w1 ⟨rfl, b1⟩
          have B1 := Lib.hid (HB.out.trans (b1.mono HB.out.size))
          clear c0 c1 c2 b1 hbw
          go_wp2
          go_roundw
          case rel => exact ⟨k + 1, by omega, by go_num, ⟨_, rfl, HQ.out⟩, B1.out⟩
          case measure => simp [intOf]; omega
        · obtain rfl : k = 0 := by omega
          have HQ := Lib.hid (show y ++ textV xk xn xs = accT (l.take (0 + 1)) by rw [HS1.out rfl, HY.out]; rfl)
          simp only [Nat.zero_mul, Nat.add_zero] at c0 c1 c2
          have hyt : y.size + (textV xk xn xs).size ≤ 281474976710656 := by omega
          clear HS0 HS1
          go_wp2_with fail
          refine (refText_any xk xn xs _ hm).mono ?_
          rintro e w1 ⟨rfl, b1⟩
          have B1 := Lib.hid (HB.out.trans (b1.mono HB.out.size))
          clear c0 c1 c2 b1 hbw
          go_wp2
          go_roundw
          case rel => exact ⟨0 + 1, by omega, by go_num, ⟨_, rfl, HQ.out⟩, B1.out⟩
          case measure => simp [intOf]; omega
      · have HQ := Lib.hid (show y ++ ⟨#[41]⟩ = textT l by rw [HX.out, HY.out, List.take_of_length_le (by omega)])
        have hyt : y.size + 1 ≤ 281474976710656 := by omega
        go_wp2
        go_ret
        exact ⟨ret_str HQ.out, HB.out⟩
  · have HX := Lib.hid (show textT l = noText by simp only [textT, hrt]; rfl)
    have hrt : rightT l = false := by simpa using hrt
    rw [hrt]
    clear hrt
    go_wp2
    go_ret
    exact ⟨ret_str HX.out.symm, HB0.out⟩
end Go.Proofs.YteamogdbhoajkaaDoor
