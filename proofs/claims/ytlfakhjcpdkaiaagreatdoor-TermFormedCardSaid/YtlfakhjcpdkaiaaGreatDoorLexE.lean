/- The token at an offset; the iterator over all tokens. Conditions: texts of at most 2^47 bytes; lex's two tables and strconv's variables as they are laid. -/
import Derived.Test.YtlfakhjcpdkaiaaGreatDoorLexR
import Derived.Shelf.Abstract
import Derived.OwnWalkIn
import Derived.TacticsInMore
import Derived.LoopNIn
import Derived.LoopIn
import Derived.WalkSmall
namespace Go.Proofs.YtlfakhjcpdkaiaaGreatDoor
open Go.RowKit Go.Deep Go.Shelf
attribute [local go_sem] Oper.semAt_some

/-- lex's tables and strconv's variables, as they are laid. -/
def Lays (w : World) : Prop := KeysAt w ∧ SignsAt w ∧ Tabs w
theorem KeysAt.below {w w' : World} (h : KeysAt w) (hb : Below w.heap.size w w') : KeysAt w' := fun j x hx => (hb.cell (p := ⟨1, j, none⟩) (World.block_lt_of_cell? w _ (h j x hx))).trans (h j x hx)
theorem SignsAt.below {w w' : World} (h : SignsAt w) (hb : Below w.heap.size w w') : SignsAt w' := fun j x hx => (hb.cell (p := ⟨0, j, none⟩) (World.block_lt_of_cell? w _ (h j x hx))).trans (h j x hx)
theorem Lays.below {w w' : World} (h : Lays w) (hb : Below w.heap.size w w') : Lays w' := ⟨h.1.below hb, h.2.1.below hb, h.2.2.below hb⟩
/-- they lie below a block, wherever else the world turns. -/
theorem Lays.keep {w a w' : World} (h : Lays w) (ha : Below w.heap.size w a) (hb : Below w.heap.size a w') : Lays w' := h.below (ha.trans hb)

/-- a token as the program has it. -/
def tokV (o : Option (Nat × List UInt8)) (k : Nat) : Value :=
  match o with
  | none => .agg #[.int .i64 0, .string noText, .int .i64 (k : Int)]
  | some (q, t) => .agg #[.int .i64 (q : Int), .string (bts t), .int .i64 (k : Int)]
theorem bts_list (l : List UInt8) : (bts l).data.toList = l := rfl
theorem kind_nil : kindW [] = 0 := by decide
theorem isempty_bts {l : List UInt8} (h : l ≠ []) : (bts l).toList.isEmpty = false := by
  rw [Lib.toList_data]
  cases l with
  | nil => exact absurd rfl h
  | cons c r => rfl

set_option maxRecDepth 100000 in
set_option maxHeartbeats 1000000 in
theorem read_any (s : ByteArray) (k : Nat) (w : World) (hs : s.size ≤ maxLen) (hs2 : s.size ≤ 281474976710656) (hk : k ≤ s.size) (hL : Lays w) :
    Calls Tryz.prog 75 #[.string s, .int .i64 k] w fun e w' => e = .returned (tokV (tokOf kindW (s.data.toList.drop k)) k) ∧ Below w.heap.size w w' := by
  have hz : (s.extract k s.size).size = s.size - k := by simp
  have HFW := Lib.hid (fun W => firstWord_any (s.extract k s.size) W (by omega))
  have HFS := Lib.hid (fun W => firstSign_any (s.extract k s.size) W)
  rw [drop_text] at HFW HFS
  have hwl : (s.data.toList.drop k).takeWhile wb = s.data.toList.drop k ∨ True := .inr trivial
  have hlen : ((s.data.toList.drop k).takeWhile wb).length ≤ s.size := by
    have h1 := (List.takeWhile_prefix (p := wb) (l := s.data.toList.drop k)).length_le
    simp at h1
    omega
  have HTk : Hid (tokOf kindW (s.data.toList.drop k) = if (s.data.toList.drop k).takeWhile wb = [] then (signOf (s.data.toList.drop k)).map fun p => (5, p) else if kindW ((s.data.toList.drop k).takeWhile wb) = 0 then none else some (kindW ((s.data.toList.drop k).takeWhile wb), (s.data.toList.drop k).takeWhile wb)) := rfl
  generalize (s.data.toList.drop k).takeWhile wb = W at HFW HTk hlen
  generalize signOf (s.data.toList.drop k) = sg at HFS HTk
  generalize tokOf kindW (s.data.toList.drop k) = tk at HTk ⊢
  clear hwl hz
  have hsz : (bts W).size ≤ s.size := by rw [bts_size]; exact hlen
  have HB0 : Below w.heap.size w (w.alloc (.cells #[.int .i64 0, .string noText, .int .i64 0] 126)) := (Below.refl _ _).alloc (Nat.le_refl _) _
  have hO := heap_alloc_new w (.cells #[.int .i64 0, .string noText, .int .i64 0] 126)
  have hO : Own (w.alloc (.cells #[.int .i64 0, .string noText, .int .i64 0] 126)) w.heap.size 126 [.int .i64 0, .string noText, .int .i64 0] := hO
  obtain ⟨w0, hw0⟩ : ∃ w0, w0 = w.alloc (.cells #[.int .i64 0, .string noText, .int .i64 0] 126) := ⟨_, rfl⟩
  rw [← hw0] at HB0 hO
  have HL0 := Lib.hid (hL.below HB0)
  have HB := Lib.hid HB0
  have HO := Lib.hid hO
  have HW := Lib.hid hw0
  have HWK := Lib.hid (wordKind_any (bts W) w0 (by omega) (by omega) HL0.out.1 HL0.out.2.2)
  rw [bts_list] at HWK
  clear HB0 hO hw0 hL
  unfold maxLen at hs
  by_cases hW : W = []
  · subst hW
    rw [kind_nil] at HWK
    go_enter Tryz.func75, Tryz.ntmps75
    go_wp2_with fail
    rw [← HW.out]
    refine (HFW.out w0).mono ?_
    rintro e w1 ⟨rfl, rfl⟩
    go_wp2_with fail
    refine HWK.out.mono ?_
    rintro e w1 ⟨rfl, b1⟩
    have B1 := Lib.hid (HB.out.trans (b1.mono HB.out.size))
    have HL1 := Lib.hid (HL0.out.below b1)
    have HO1 := Lib.hid (HO.out.below b1)
    clear b1 HWK HFW
    go_wp2_with fail
    refine (HFS.out w1 HL1.out.2.1).mono ?_
    rintro e w2 ⟨rfl, rfl⟩
    have c0 := HO1.out.cell 0
    have c1 := HO1.out.cell 1
    have c2 := HO1.out.cell 2
    have f0 := HO1.out.frozen 0
    have f1 := HO1.out.frozen 1
    have f2 := HO1.out.frozen 2
    have q0 := HO1.out.lt
    cases sg with
    | none =>
      simp only [signV]
      go_wp2
      exact bodyPost_ret (v := tokV tk k) (by rw [HTk.out]; simp [results, Tryz.results75, go_sem, tokV, (((HO1.out.set 0 (.int .i64 0)).set 1 (.string noText)).set 2 (.int .i64 (k : Int))).cell]) rfl ⟨rfl, ((B1.out.setCell (p := ⟨w.heap.size, 0, none⟩) (Nat.le_refl _) _).setCell (p := ⟨w.heap.size, 1, none⟩) (Nat.le_refl _) _).setCell (p := ⟨w.heap.size, 2, none⟩) (Nat.le_refl _) _⟩
    | some p =>
      simp only [signV]
      go_wp2
      exact bodyPost_ret (v := tokV tk k) (by rw [HTk.out]; simp [results, Tryz.results75, go_sem, tokV, (((HO1.out.set 0 (.int .i64 5)).set 1 (.string (bts p))).set 2 (.int .i64 (k : Int))).cell]) rfl ⟨rfl, ((B1.out.setCell (p := ⟨w.heap.size, 0, none⟩) (Nat.le_refl _) _).setCell (p := ⟨w.heap.size, 1, none⟩) (Nat.le_refl _) _).setCell (p := ⟨w.heap.size, 2, none⟩) (Nat.le_refl _) _⟩
  · have he := isempty_bts hW
    have HTk' : Hid (tk = if kindW W = 0 then none else some (kindW W, W)) := by show _ = _; rw [HTk.out, if_neg hW]
    have he2 : ((bts W).toList == []) = false := by
      cases hl : (bts W).toList with
      | nil => rw [hl] at he; cases he
      | cons _ _ => rfl
    generalize hq : kindW W = q at HWK HTk'
    obtain ⟨T, hT⟩ : ∃ T, T = bts W := ⟨_, rfl⟩
    rw [← hT] at HFW HWK he he2
    have HT := Lib.hid hT
    clear hT HTk hq hW hsz hlen HFS
    by_cases h0 : q = 0
    · subst h0
      go_enter Tryz.func75, Tryz.ntmps75
      go_wp2_with fail
      rw [← HW.out]
      refine (HFW.out w0).mono ?_
      rintro e w1 ⟨rfl, rfl⟩
      go_wp2_with fail
      refine HWK.out.mono ?_
      rintro e w1 ⟨rfl, b1⟩
      have B1 := Lib.hid (HB.out.trans (b1.mono HB.out.size))
      have HO1 := Lib.hid (HO.out.below b1)
      clear b1 HWK HFW
      have c0 := HO1.out.cell 0
      have c1 := HO1.out.cell 1
      have c2 := HO1.out.cell 2
      have f0 := HO1.out.frozen 0
      have f1 := HO1.out.frozen 1
      have f2 := HO1.out.frozen 2
      have q0 := HO1.out.lt
      go_wp2
      exact bodyPost_ret (v := tokV tk k) (by rw [HTk'.out]; simp [results, Tryz.results75, go_sem, tokV, (((HO1.out.set 0 (.int .i64 0)).set 1 (.string noText)).set 2 (.int .i64 (k : Int))).cell]) rfl ⟨rfl, ((B1.out.setCell (p := ⟨w.heap.size, 0, none⟩) (Nat.le_refl _) _).setCell (p := ⟨w.heap.size, 1, none⟩) (Nat.le_refl _) _).setCell (p := ⟨w.heap.size, 2, none⟩) (Nat.le_refl _) _⟩
    · have h00 : ((q : Int) == 0) = false := by simp only [beq_eq_false_iff_ne]; omega
      have HN := Lib.hid h0
      clear h0
      go_enter Tryz.func75, Tryz.ntmps75
      go_wp2_with fail
      rw [← HW.out]
      refine (HFW.out w0).mono ?_
      rintro e w1 ⟨rfl, rfl⟩
      go_wp2_with fail
      refine HWK.out.mono ?_
      rintro e w1 ⟨rfl, b1⟩
      have B1 := Lib.hid (HB.out.trans (b1.mono HB.out.size))
      have HO1 := Lib.hid (HO.out.below b1)
      clear b1 HWK HFW
      have c0 := HO1.out.cell 0
      have c1 := HO1.out.cell 1
      have c2 := HO1.out.cell 2
      have f0 := HO1.out.frozen 0
      have f1 := HO1.out.frozen 1
      have f2 := HO1.out.frozen 2
      have q0 := HO1.out.lt
      go_wp2
      exact bodyPost_ret (v := tokV tk k) (by rw [HTk'.out, if_neg HN.out]; simp only [tokV]; rw [← HT.out]; simp [results, Tryz.results75, go_sem, (((HO1.out.set 0 (.int .i64 (q : Int))).set 1 (.string T)).set 2 (.int .i64 (k : Int))).cell]) rfl ⟨rfl, ((B1.out.setCell (p := ⟨w.heap.size, 0, none⟩) (Nat.le_refl _) _).setCell (p := ⟨w.heap.size, 1, none⟩) (Nat.le_refl _) _).setCell (p := ⟨w.heap.size, 2, none⟩) (Nat.le_refl _) _⟩
end Go.Proofs.YtlfakhjcpdkaiaaGreatDoor
