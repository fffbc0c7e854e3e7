/- A tuple's hash by tuple.Hash and by corollaryref02.Hash: one number. Conditions: texts of at most 2000 bytes; the library's table. -/
import Derived.Test.YteamogdbhoajkaaDoorTupD
namespace Go.Proofs.YteamogdbhoajkaaDoor
open Go.RowKit Go.Deep

/-- a text's bytes in a new block, one block behind it: what append asks. -/
theorem bytes_holds (w1 : World) (t : ByteArray) (o : Obj) : ∀ j, j < t.size → ((Lib.bytesWorld w1 5 t).alloc o).cell? ⟨w1.heap.size, j, none⟩ = some (.int .u8 (t.data.toList.getD j 0).toNat) := by
  intro j hj
  rw [World.cell?_alloc_lt _ _ _ (by rw [Lib.bytesWorld_size]; simp)]
  exact Lib.bytesWorld_cell w1 _ t j hj
theorem bytes_room (w1 : World) (t : ByteArray) (o : Obj) (h : t.size < grownCap w1 t.size 0 5) :
    (((Lib.bytesWorld w1 5 t).alloc o).cell? ⟨w1.heap.size, t.size, none⟩).isSome = true ∧ ((Lib.bytesWorld w1 5 t).alloc o).frozen? ⟨w1.heap.size, t.size, none⟩ = false := by
  have hs : (Lib.bytesCells w1 5 t).size = grownCap w1 t.size 0 5 := by
    have : t.data.size = t.size := rfl
    simp [Lib.bytesCells, this]
    omega
  have hb : ((Lib.bytesWorld w1 5 t).alloc o).heap[w1.heap.size]? = some (.cells (Lib.bytesCells w1 5 t) 5 ((Lib.bytesCells w1 5 t).size, (Lib.bytesCells w1 5 t).size + 1)) := by
    rw [Below.heap_alloc _ _ _ (by rw [Lib.bytesWorld_size]; omega)]
    exact Lib.bytesWorld_at_new w1 _ t
  constructor
  · simp [World.cell?, hb, hs, h]
  · simp [World.frozen?, hb, hs]
    omega
theorem bytes_new (w1 : World) (t : ByteArray) : ((Lib.bytesWorld w1 5 t).alloc (.cells #[.int .u8 0] 5)).cell? ⟨(Lib.bytesWorld w1 5 t).heap.size, 0, none⟩ = some (.int .u8 0) := by go_simp
theorem bytes_below {B : Nat} {w w1 : World} (t : ByteArray) (o : Obj) (h : Below B w w1) (hB : B ≤ w1.heap.size) : Below B w ((Lib.bytesWorld w1 5 t).alloc o) ∧ B ≤ ((Lib.bytesWorld w1 5 t).alloc o).heap.size := by
  have h1 := h.trans ((below_bytesM w1 5 t).mono hB)
  have h2 : B ≤ (Lib.bytesWorld w1 5 t).heap.size := by rw [Lib.bytesWorld_size]; omega
  exact ⟨h1.alloc h2 o, by simp; omega⟩

set_option maxRecDepth 100000 in
set_option maxHeartbeats 400000 in
theorem refHashT_any (A : Option Addr) (c : Nat) (l : List V3) (hl : l.length ≤ maxLen) (hf : Short l) (w : World) (hr : Row w A l) :
    Calls Tryd.prog 16 #[.slice A l.length c] w fun e w' => e = .returned (.int .u32 (hashT l)) ∧ Below w.heap.size w w' := by
  unfold maxLen at hl
  have HR := Lib.hid hr
  have HF := Lib.hid hf
  clear hr hf
  go_enter Tryd.func16, Tryd.ntmps16
  go_wp2
  go_loopw [3, 4] (fun h i wr => ∃ k : Nat, k ≤ l.length ∧ i = .int .i64 k ∧ (∃ y : Int, h = .int .u32 y ∧ Hid (y = hashFrom 2166136261 (l.take k))) ∧ Hid (Below w.heap.size w wr)) (fun _ i _ => l.length - (intOf i).toNat)
  case atStart => exact ⟨0, Nat.zero_le _, rfl, ⟨_, rfl, rfl⟩, Below.refl _ _⟩
  case round =>
    obtain ⟨k, hk, rfl, ⟨y, rfl, HY⟩, HB⟩ := hrel
    by_cases hlt : k < l.length
    · obtain ⟨b, o, rfl, hbw, hc⟩ := HR.out.at_ hlt
      have hx := HF.out l[k] (List.getElem_mem hlt)
      have HS := Lib.hid (hash_snoc hlt 2166136261)
      generalize l[k] = x at hc hx HS
      obtain ⟨xk, xn, xs⟩ := x
      obtain ⟨c0, c1, c2⟩ := hc
      have c0 := (HB.out.cell hbw).trans c0
      have c1 := (HB.out.cell hbw).trans c1
      have c2 := (HB.out.cell hbw).trans c2
      simp only at c0 c1 c2 hx
      have hm : xs.size ≤ maxLen := by unfold maxLen; omega
      have ht := tx_short (x := (xk, xn, xs)) hx
      go_wp2_with fail
      refine (refText_any xk xn xs _ hm).mono ?_
      rintro e w1 ⟨rfl, b1⟩
      have B1 := Lib.hid (HB.out.trans (b1.mono HB.out.size))
      change (textV xk xn xs).size ≤ 2000 at ht
      have ht' : (textV xk xn xs).size + 1 ≤ 281474976710656 := by omega
      clear c0 c1 c2 b1 hbw
      go_wp2_with fail
      refine (refMix_any y (textV xk xn xs ++ nulB) _ (by rw [push_size]; unfold maxLen; omega)).mono ?_
      rintro e w2 ⟨rfl, rfl⟩
      have HQ := Lib.hid (show mixL y (textV xk xn xs ++ nulB).data.toList = hashFrom 2166136261 (l.take (k + 1)) by rw [HS.out, ← HY.out]; rfl)
      clear HS HY ht ht'
      generalize mixL y (textV xk xn xs ++ nulB).data.toList = z at HQ
      go_wp2
      go_roundw
      case rel => exact ⟨k + 1, by omega, by go_num, ⟨z, rfl, HQ.out⟩, B1.out⟩
      case measure => simp [intOf]; omega
    · have HQ := Lib.hid (show y = hashT l by rw [HY.out, List.take_of_length_le (by omega)]; rfl)
      go_wp2
      go_ret
      exact ⟨ret_u32 HQ.out, HB.out⟩

set_option maxRecDepth 100000 in
set_option maxHeartbeats 400000 in
theorem HashT_any (A : Option Addr) (c : Nat) (l : List V3) (hl : l.length ≤ maxLen) (hf : Short l) (w : World) (hT : Tab w) (hr : Row w A l) :
    Calls Tryd.prog 15 #[.slice A l.length c] w fun e w' => e = .returned (.int .u32 (hashT l)) ∧ Below w.heap.size w w' := by
  unfold maxLen at hl
  have HR := Lib.hid hr
  have HF := Lib.hid hf
  have HT := Lib.hid hT
  clear hr hf hT
  go_enter Tryd.func15, Tryd.ntmps15
  go_wp2
  go_loopw [3, 8] (fun h i wr => ∃ k : Nat, k ≤ l.length ∧ i = .int .i64 k ∧ (∃ y : Int, h = .int .u32 y ∧ Hid (y = hashFrom 2166136261 (l.take k))) ∧ Hid (Below w.heap.size w wr)) (fun _ i _ => l.length - (intOf i).toNat)
  case atStart => exact ⟨0, Nat.zero_le _, rfl, ⟨_, rfl, rfl⟩, Below.refl _ _⟩
  case round =>
    obtain ⟨k, hk, rfl, ⟨y, rfl, HY⟩, HB⟩ := hrel
    by_cases hlt : k < l.length
    · obtain ⟨b, o, rfl, hbw, hc⟩ := HR.out.at_ hlt
      have hx := HF.out l[k] (List.getElem_mem hlt)
      have HS := Lib.hid (hash_snoc hlt 2166136261)
      generalize l[k] = x at hc hx HS
      obtain ⟨xk, xn, xs⟩ := x
      obtain ⟨c0, c1, c2⟩ := hc
      have c0 := (HB.out.cell hbw).trans c0
      have c1 := (HB.out.cell hbw).trans c1
      have c2 := (HB.out.cell hbw).trans c2
      simp only at c0 c1 c2 hx
      have hm : xs.size ≤ maxLen := by unfold maxLen; omega
      have ht := tx_short (x := (xk, xn, xs)) hx
      have BA := HB.out.alloc (o := .cells #[.int .i64 xk, .int .i64 xn, .string xs] 30) HB.out.size
      have BB := Lib.hid BA
      clear BA
      go_wp2_with fail
      refine (Text_any xk xn xs _ hm (HT.out.below BB.out)).mono ?_
      rintro e w1 ⟨rfl, b1⟩
      have B1 := Lib.hid (BB.out.trans (b1.mono BB.out.size))
      have ht : (textV xk xn xs).size ≤ 2000 := ht
      clear c0 c1 c2 b1 hbw BB
      generalize htt : textV xk xn xs = t at ht
      have HTT := Lib.hid htt
      clear htt
      have kc := conv_bytes t w1
      have N1 := Lib.hid (show w.heap.size ≤ w1.heap.size from B1.out.size)
      have N2 := Lib.hid (bytes_below t (.cells #[.int .u8 0] 5) B1.out N1.out)
      go_wp2_with (at_builtin; refine append0 _ rfl (.tmp 15) (.tmp 16) rfl w.heap.size w1.heap.size _ _ t N1.out N2.out.2 rfl (bytes_holds w1 t _) (bytes_room w1 t _) rfl (bytes_new w1 t) ht ?_)
      intro g' cap' w2 hb2 hby
      have B2 := Lib.hid (N2.out.1.trans hb2)
      have hmix := Mix_any y (t ++ nulB) g' cap' w2 (by rw [push_size]; unfold maxLen; omega) hby
      rw [push_size] at hmix
      have HM := Lib.hid hmix
      clear kc hb2 hby hmix
      go_wp2_with fail
      refine HM.out.mono ?_
      rintro e w3 ⟨rfl, rfl⟩
      have HQ := Lib.hid (show mixL y (t ++ nulB).data.toList = hashFrom 2166136261 (l.take (k + 1)) by rw [HS.out, ← HY.out, ← HTT.out]; rfl)
      clear HS HY ht HM
      generalize mixL y (t ++ nulB).data.toList = z at HQ
      go_wp2
      go_roundw
      case rel => exact ⟨k + 1, by omega, by go_num, ⟨z, rfl, HQ.out⟩, B2.out⟩
      case measure => simp [intOf]; omega
    · have HQ := Lib.hid (show y = hashT l by rw [HY.out, List.take_of_length_le (by omega)]; rfl)
      go_wp2
      go_ret
      exact ⟨ret_u32 HQ.out, HB.out⟩
end Go.Proofs.YteamogdbhoajkaaDoor
