/- Which worker's a tuple is, by both. Conditions: texts of at most 2000 bytes, at most 50 columns; the library's table. -/
import Derived.Test.YteamogdbhoajkaaDoorTupR
namespace Go.Proofs.YteamogdbhoajkaaDoor
open Go.RowKit Go.Deep

def errV (n : Int) : Value := if n = 0 then .nilIface else eno n
def shardT (l : List V3) (wk : Int) (cs : List Int) : Int × Int :=
  if wk < 1 ∨ 16 < wk then (0, 1) else if cs.any (badC l.length) = true then (0, 1) else if 6 < cs.length then (0, 6) else (hashT (pickT l cs) % wk, 0)
theorem Short.pick {l : List V3} (h : Short l) (cs : List Int) : Short (pickT l cs) := by
  intro x hx
  simp only [pickT, List.mem_map] at hx
  obtain ⟨c, _, rfl⟩ := hx
  rw [List.getD]
  cases hg : l[c.toNat]? with
  | none => exact Nat.zero_le _
  | some y => exact h y (List.mem_of_getElem? hg)
theorem mix_range : ∀ (m : List UInt8) (h : Int), 0 ≤ h → h < 4294967296 → 0 ≤ mixL h m ∧ mixL h m < 4294967296
  | [], h, h1, h2 => ⟨h1, h2⟩
  | c :: m, h, _, _ => by
    have := mix_range m (mixStep h c) (Int.emod_nonneg _ (by omega)) (Int.emod_lt_of_pos _ (by omega))
    exact this
theorem hash_range : ∀ (l : List V3) (h : Int), 0 ≤ h → h < 4294967296 → 0 ≤ hashFrom h l ∧ hashFrom h l < 4294967296
  | [], h, h1, h2 => ⟨h1, h2⟩
  | x :: l, h, h1, h2 => by
    obtain ⟨g1, g2⟩ := mix_range (tx x ++ nulB).data.toList h h1 h2
    exact hash_range l _ g1 g2
theorem hashT_range (l : List V3) : 0 ≤ hashT l ∧ hashT l < 4294967296 := hash_range l _ (by omega) (by omega)

set_option maxRecDepth 100000 in
set_option maxHeartbeats 400000 in
theorem refShard_any (A : Option Addr) (c : Nat) (l : List V3) (wk : Int) (C : Option Addr) (cc : Nat) (cs : List Int) (h50 : cs.length ≤ 50) (hll : l.length ≤ maxLen) (hf : Short l) (w : World) (hrl : Row w A l) (hr : Cols w C cs) :
    Calls Tryd.prog 22 #[.slice A l.length c, .int .i64 wk, .slice C cs.length cc] w fun e w' => e = .returned (.tuple #[.int .i64 (shardT l wk cs).1, .int .i64 (shardT l wk cs).2]) ∧ Below w.heap.size w w' := by
  by_cases h1 : wk < 1
  · have e : shardT l wk cs = (0, 1) := by simp [shardT, h1]
    rw [e]
    clear e
    go_enter Tryd.func22, Tryd.ntmps22
    go_wp2
    refine bodyPost_ret (v := .tuple #[.int .i64 0, .int .i64 1]) (by simp [results, Tryd.results22, go_sem]) rfl ⟨rfl, Below.refl _ _⟩
  · by_cases h2 : 16 < wk
    · have e : shardT l wk cs = (0, 1) := by simp [shardT, h2]
      rw [e]
      clear e
      go_enter Tryd.func22, Tryd.ntmps22
      go_wp2
      refine bodyPost_ret (v := .tuple #[.int .i64 0, .int .i64 1]) (by simp [results, Tryd.results22, go_sem]) rfl ⟨rfl, Below.refl _ _⟩
    · have HP := Lib.hid (refPick_any A c l C cc cs h50 hll w hrl hr)
      have HF := Lib.hid (hf.pick cs)
      have HE : Hid (shardT l wk cs = if cs.any (badC l.length) = true then (0, 1) else if 6 < cs.length then (0, 6) else (hashT (pickT l cs) % wk, 0)) := by
        show shardT l wk cs = _
        simp only [shardT]
        rw [if_neg (by omega)]
      go_enter Tryd.func22, Tryd.ntmps22
      go_wp2_with fail
      refine HP.out.mono ?_
      rintro e w1 ⟨k1, k2, k3, b1⟩
      clear HP hrl hr hf
      have B1 := Lib.hid b1
      clear b1
      cases hb : cs.any (badC l.length) with
      | true =>
        obtain rfl := k1 hb
        have HQ := Lib.hid (HE.out.trans (if_pos hb))
        clear k1 k2 k3 hb HE
        go_wp2
        refine bodyPost_ret (v := .tuple #[.int .i64 0, .int .i64 1]) (by simp [results, Tryd.results22, go_sem]) rfl ⟨by rw [HQ.out], B1.out⟩
      | false =>
        have HQ1 := Lib.hid (HE.out.trans (if_neg (by rw [hb]; simp)))
        by_cases h6 : 6 < cs.length
        · obtain rfl := k2 hb h6
          have HQ := Lib.hid (HQ1.out.trans (if_pos h6))
          clear k1 k2 k3 hb HE HQ1
          go_wp2
          refine bodyPost_ret (v := .tuple #[.int .i64 0, .int .i64 6]) (by simp [results, Tryd.results22, go_sem]) rfl ⟨by rw [HQ.out], B1.out⟩
        · obtain ⟨A2, c2, rfl, hr2⟩ := k3 hb h6
          have HQ := Lib.hid (HQ1.out.trans (if_neg h6))
          have hpl : (pickT l cs).length ≤ maxLen := by rw [pick_len]; unfold maxLen; omega
          have HH := Lib.hid (refHashT_any A2 c2 (pickT l cs) hpl HF.out w1 hr2)
          clear k1 k2 k3 hb HE HQ1 hr2
          go_wp2_with fail
          refine HH.out.mono ?_
          rintro e w2 ⟨rfl, b2⟩
          have B2 := Lib.hid (B1.out.trans (b2.mono B1.out.size))
          obtain ⟨g1, g2⟩ := hashT_range (pickT l cs)
          clear HH b2 hpl
          generalize hashT (pickT l cs) = x at g1 g2 HQ
          go_wp2
          refine bodyPost_ret (v := .tuple #[.int .i64 (x % wk), .int .i64 0]) (by simp [results, Tryd.results22, go_sem]) rfl ⟨by rw [HQ.out], B2.out⟩

theorem err1 : errV 1 = eno 1 := by simp [errV]
theorem err6 : errV 6 = eno 6 := by simp [errV]
theorem err0 : errV 0 = .nilIface := by simp [errV]
set_option maxRecDepth 100000 in
set_option maxHeartbeats 400000 in
theorem Shard_any (A : Option Addr) (c : Nat) (l : List V3) (wk : Int) (C : Option Addr) (cc : Nat) (cs : List Int) (h50 : cs.length ≤ 50) (hll : l.length ≤ maxLen) (hf : Short l) (w : World) (hT : Tab w) (hrl : Row w A l) (hr : Cols w C cs) :
    Calls Tryd.prog 21 #[.slice A l.length c, .int .i64 wk, .slice C cs.length cc] w fun e w' => e = .returned (.tuple #[.int .i64 (shardT l wk cs).1, errV (shardT l wk cs).2]) ∧ Below w.heap.size w w' := by
  by_cases h1 : wk < 1
  · have e : shardT l wk cs = (0, 1) := by simp [shardT, h1]
    rw [e, err1]
    clear e
    go_enter Tryd.func21, Tryd.ntmps21
    go_wp2
    refine bodyPost_ret (v := .tuple #[.int .i64 0, eno 1]) (by simp [results, Tryd.results21, go_sem]) rfl ⟨rfl, Below.refl _ _⟩
  · by_cases h2 : 16 < wk
    · have e : shardT l wk cs = (0, 1) := by simp [shardT, h2]
      rw [e, err1]
      clear e
      go_enter Tryd.func21, Tryd.ntmps21
      go_wp2
      refine bodyPost_ret (v := .tuple #[.int .i64 0, eno 1]) (by simp [results, Tryd.results21, go_sem]) rfl ⟨rfl, Below.refl _ _⟩
    · have hcl : cs.length ≤ maxLen := by unfold maxLen; omega
      have HE : Hid (shardT l wk cs = if cs.any (badC l.length) = true then (0, 1) else if 6 < cs.length then (0, 6) else (hashT (pickT l cs) % wk, 0)) := by
        show shardT l wk cs = _
        simp only [shardT]
        rw [if_neg (by omega)]
      cases hb : cs.any (badC l.length) with
      | true =>
        have HP := Lib.hid (Pick_range A c l C cc cs hcl hb w hr)
        have HQ := Lib.hid (HE.out.trans (if_pos hb))
        clear hb HE hrl hr hf hT
        go_enter Tryd.func21, Tryd.ntmps21
        go_wp2_with fail
        refine HP.out.mono ?_
        rintro e w1 ⟨rfl, b1⟩
        have kn : ∀ w, (binOp .neq 39 (eno 1) .nilIface).run Tryd.prog w = .ok (.bool true) w := fun w => by kernel_rfl
        go_wp2
        refine bodyPost_ret (v := .tuple #[.int .i64 0, eno 1]) (by simp [results, Tryd.results21, go_sem]) rfl ⟨by rw [HQ.out, err1], b1⟩
      | false =>
        have HQ1 := Lib.hid (HE.out.trans (if_neg (by rw [hb]; simp)))
        by_cases h6 : 6 < cs.length
        · have HP := Lib.hid (Pick_arity A c l C cc cs hcl hb (by omega) w hr)
          have HQ := Lib.hid (HQ1.out.trans (if_pos h6))
          clear hb HE hrl hr hf hT HQ1
          go_enter Tryd.func21, Tryd.ntmps21
          go_wp2_with fail
          refine HP.out.mono ?_
          rintro e w1 ⟨rfl, b1⟩
          have kn : ∀ w, (binOp .neq 39 (eno 6) .nilIface).run Tryd.prog w = .ok (.bool true) w := fun w => by kernel_rfl
          go_wp2
          refine bodyPost_ret (v := .tuple #[.int .i64 0, eno 6]) (by simp [results, Tryd.results21, go_sem]) rfl ⟨by rw [HQ.out, err6], b1⟩
        · have HP := Lib.hid (Pick_ok A c l C cc cs hb (by omega) hll w hrl hr)
          have HQ := Lib.hid (HQ1.out.trans (if_neg h6))
          have HF := Lib.hid (hf.pick cs)
          have HT := Lib.hid hT
          clear hb HE hrl hr hf HQ1 hT
          go_enter Tryd.func21, Tryd.ntmps21
          go_wp2_with fail
          refine HP.out.mono ?_
          rintro e w1 ⟨g, rfl, hr2, b1⟩
          have B1 := Lib.hid b1
          have hpl : (pickT l cs).length ≤ maxLen := by rw [pick_len]; unfold maxLen; omega
          have HH := Lib.hid (HashT_any (some ⟨g, 0, none⟩) (pickT l cs).length (pickT l cs) hpl HF.out w1 (HT.out.below b1) hr2)
          clear b1 hr2 hpl HP
          go_wp2_with fail
          refine HH.out.mono ?_
          rintro e w2 ⟨rfl, b2⟩
          have B2 := Lib.hid (B1.out.trans (b2.mono B1.out.size))
          obtain ⟨g1, g2⟩ := hashT_range (pickT l cs)
          clear HH b2
          generalize hashT (pickT l cs) = x at g1 g2 HQ
          go_wp2
          have g3 := Int.emod_nonneg x (b := wk) (by omega)
          have g4 := Int.emod_lt_of_pos x (b := wk) (by omega)
          have hw : wrap64 (x % wk) = x % wk := by unfold wrap64; omega
          rw [hw]
          refine bodyPost_ret (v := .tuple #[.int .i64 (x % wk), .nilIface]) (by simp [results, Tryd.results21, go_sem]) rfl ⟨by rw [HQ.out, err0], B2.out⟩
end Go.Proofs.YteamogdbhoajkaaDoor
