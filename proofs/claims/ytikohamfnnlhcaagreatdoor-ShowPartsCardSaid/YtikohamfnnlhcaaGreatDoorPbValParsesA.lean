/- corollaryref01.Parse, whole: what it answers to any text. Conditions: texts no longer than Go's longest. -/
import Derived.Test.YtikohamfnnlhcaaGreatDoorSbB
import Derived.Lib.IndexBytes
namespace Go.Proofs.YtikohamfnnlhcaaGreatDoor
open Go.RowKit

theorem headOk_ne {neg : Bool} {T : ByteArray} (h0 : 0 < T.size) (h : ((T[0].toNat : Int) == 48) = false) : HeadOk neg T := by
  rintro ⟨x, _⟩
  have e : T.data.toList.head? = some T[0] := by
    rw [List.head?_eq_getElem?]
    simp [h0]; rfl
  rw [e] at x
  have := Option.some.inj x
  rw [this] at h
  simp at h
theorem head_eq {T : ByteArray} (h0 : 0 < T.size) {k : UInt8} (h : ((T[0].toNat : Int) == k.toNat) = true) : T.data.toList.head? = some k := by
  have e : T.data.toList.head? = some T[0] := by
    rw [List.head?_eq_getElem?]
    simp [h0]; rfl
  rw [e]
  congr 1
  apply UInt8.toNat_inj.1
  have := beq_iff_eq.1 h
  omega
theorem head_neq {T : ByteArray} (h0 : 0 < T.size) {k : UInt8} (h : ((T[0].toNat : Int) == k.toNat) = false) : T.data.toList.head? ≠ some k := by
  have e : T.data.toList.head? = some T[0] := by
    rw [List.head?_eq_getElem?]
    simp [h0]; rfl
  rw [e]
  intro x
  rw [Option.some.inj x] at h
  simp at h

theorem refParse_any (s : ByteArray) (w : World) (hs : s.size ≤ maxLen) (hm : isName s.data.toList = false) :
    Calls Tryz.prog 160 #[.string s] w fun e w' => e = .returned (outV (pv s.data.toList)) ∧ Below w.heap.size w w' := by
  by_cases h0 : 0 < s.size
  · cases h45 : ((s[0].toNat : Int) == 45) with
    | true =>
      have hh := head_eq (k := 45) h0 h45
      obtain ⟨T, hte⟩ : ∃ T, s.extract 1 s.size = T := ⟨_, rfl⟩
      have hd : T.data.toList = s.data.toList.tail := by
        rw [← hte, Lib.extract_to_end]; simp
      have hTs : T.size ≤ s.size := by
        have h1 : T.size = T.data.toList.length := by simp
        rw [h1, hd, List.length_tail]; simp
      have hT : T.size ≤ maxLen := Nat.le_trans hTs hs
      have e : pv s.data.toList = signed true (pnum true T.data.toList) := by
        unfold pv; rw [if_pos hh, hd]
      rw [e]
      by_cases h1 : T.size = 0
      · exact ref_neg_none s T w hs hm hT h0 h45 hte h1
      · have h0T : 0 < T.size := by omega
        by_cases h2 : 10 < T.size
        · exact ref_neg_long s T w hs hm hT h0 h45 hte h0T (by omega)
        · cases h48 : ((T[0].toNat : Int) == 48) with
          | true => exact ref_neg_zero s T w hs hm hT h0 h45 hte h0T (by omega) h48 (fun x => x ⟨head_eq (k := 48) h0T h48, .inr rfl⟩)
          | false => exact ref_neg_loop s T w hs hm hT h0 h45 hte h0T (by omega) h48 (headOk_ne h0T h48)
    | false =>
      have hh := head_neq (k := 45) h0 h45
      have e : pv s.data.toList = signed false (pnum false s.data.toList) := by
        unfold pv; rw [if_neg hh]
      rw [e]
      by_cases h2 : 10 < s.size
      · exact ref_pos_long s w hs hm hs h0 h45 (by omega)
      · cases h48 : ((s[0].toNat : Int) == 48) with
        | true =>
          by_cases h1 : 1 < s.size
          · exact ref_pos_zero s w hs hm hs h0 h45 (by omega) h48 (by omega) (fun x => x ⟨head_eq (k := 48) h0 h48, .inl (by rw [size_len]; exact h1)⟩)
          · refine ref_pos_one s w hs hm hs h0 h45 (by omega) h48 (by omega) ?_
            rintro ⟨_, y | y⟩
            · rw [size_len] at y; omega
            · cases y
        | false => exact ref_pos_loop s w hs hm hs h0 h45 (by omega) h48 (headOk_ne h0 h48)
  · obtain rfl := empty_of (s := s) (by omega)
    exact ref_empty w hs hm hs

end Go.Proofs.YtikohamfnnlhcaaGreatDoor
