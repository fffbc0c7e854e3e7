/- Blocks that lie as they lay; a range over a function whose yields lie in memory of their own: the law. Conditions: none. The token at an offset; the iterator over all tokens. Conditions: texts of at most 2^47 bytes; lex's two tables and strconv's variables as they are laid. What a loop's body may turn; the iterator over all tokens. Conditions: texts of at most 2^47 bytes; lex's two tables and strconv's variables as they are laid. -/
import Derived.Test.YtolnikpihedmbaaGreatDoorPbC
import Derived.RangeFuncNested
import Derived.RangeFuncBound
import Derived.RangeFuncCalls
import Derived.RangeFuncLeaves
import Derived.ArgAppend
import Derived.Laws.AppendOwnNone
import Derived.Shelf.Abstract
import Derived.OwnWalkIn
import Derived.TacticsInMore
import Derived.LoopNIn
import Derived.LoopIn
import Derived.WalkSmall
namespace Go.Proofs.YtolnikpihedmbaaGreatDoor
open Go.RowKit Go.Deep

/-- block g is just these cells. -/
def Own (w : World) (g : Nat) (e : TypeId) (xs : List Value) : Prop := w.heap[g]? = some (.cells xs.toArray e (0, 0))
section
variable {w w' : World} {g : Nat} {e : TypeId} {xs : List Value}
theorem Own.lt (h : Own w g e xs) : g < w.heap.size := (Array.getElem?_eq_some_iff.1 h).1
theorem Own.cell (h : Own w g e xs) (i : Nat) : w.cell? ⟨g, i, none⟩ = xs[i]? := by
  unfold Own at h
  simp [World.cell?, h]
theorem Own.frozen (h : Own w g e xs) (i : Nat) : w.frozen? ⟨g, i, none⟩ = false := by
  unfold Own at h
  simp [World.frozen?, h]
theorem Own.set (h : Own w g e xs) (i : Nat) (u : Value) : Own (w.setCell ⟨g, i, none⟩ u) g e (xs.set i u) := by
  unfold Own at h ⊢
  simp [World.setCell, Array.getElem?_modify, h]
theorem Own.keep (h : Own w g e xs) {B : Nat} (hb : Below B w w') (hg : g < B) : Own w' g e xs := (hb.block g hg).trans h
theorem Own.below (h : Own w g e xs) (hb : Below w.heap.size w w') : Own w' g e xs := h.keep hb h.lt
theorem Own.alloc (h : Own w g e xs) (o : Obj) : Own (w.alloc o) g e xs := h.below ((Below.refl _ _).alloc (Nat.le_refl _) _)
end

/-- all blocks but S lie as they lay. -/
structure Kept (S : List Nat) (w w' : World) : Prop where
  os : w'.os = w.os
  tape : w'.tape = w.tape
  output : w'.output = w.output
  size : w.heap.size ≤ w'.heap.size
  block : ∀ k, k < w.heap.size → k ∉ S → w'.heap[k]? = w.heap[k]?
/-- the blocks S' are among S, or new. -/
def Sub (S' S : List Nat) (n : Nat) : Prop := ∀ k ∈ S', k ∈ S ∨ n ≤ k
section
variable {S S' S'' : List Nat} {a b c w w' : World}
theorem Sub.refl (S : List Nat) (n : Nat) : Sub S S n := fun _ h => .inl h
theorem Sub.trans {n m : Nat} (h : Sub S' S n) (h' : Sub S'' S' m) (hn : n ≤ m) : Sub S'' S n := fun k hk => by
  rcases h' k hk with h1 | h1
  · exact h k h1
  · exact .inr (Nat.le_trans hn h1)
theorem Kept.refl (S : List Nat) (w : World) : Kept S w w := ⟨rfl, rfl, rfl, Nat.le_refl _, fun _ _ _ => rfl⟩
theorem Kept.of (S : List Nat) (h : Below w.heap.size w w') : Kept S w w' := ⟨h.os, h.tape, h.output, h.size, fun k hk _ => h.block k hk⟩
theorem Kept.trans (h : Kept S a b) (h' : Kept S' b c) (hs : Sub S' S a.heap.size) : Kept S a c :=
  ⟨h'.os.trans h.os, h'.tape.trans h.tape, h'.output.trans h.output, Nat.le_trans h.size h'.size, fun k hk hn =>
    (h'.block k (Nat.lt_of_lt_of_le hk h.size) (fun hk' => (hs k hk').elim hn (fun h1 => absurd h1 (by omega)))).trans (h.block k hk hn)⟩
theorem Kept.below (h : Kept S w w') {B : Nat} (hB : B ≤ w.heap.size) (hs : ∀ k ∈ S, B ≤ k) : Below B w w' :=
  ⟨h.os, h.tape, h.output, h.size, fun k hk => h.block k (by omega) (fun hk' => by have := hs k hk'; omega)⟩
theorem Kept.more (h : Kept S w w') (hs : ∀ k ∈ S, k ∈ S') : Kept S' w w' := ⟨h.os, h.tape, h.output, h.size, fun k hk hn => h.block k hk (fun h1 => hn (hs k h1))⟩
theorem Kept.cell (h : Kept S w w') {p : Addr} (hp : p.block < w.heap.size) (hn : p.block ∉ S) : w'.cell? p = w.cell? p := World.cell?_of_block (w := w) (h.block p.block hp hn)
theorem Kept.own (h : Kept S w w') {g : Nat} {e : TypeId} {xs : List Value} (ho : Own w g e xs) (hn : g ∉ S) : Own w' g e xs := (h.block g ho.lt hn).trans ho
theorem Kept.then (h : Kept S a w) (h' : Below w.heap.size w w') : Kept S a w' := h.trans (Kept.of [] h') (fun _ hk => by cases hk)
theorem Kept.alloc (h : Kept S a w) (o : Obj) : Kept S a (w.alloc o) := h.then ((Below.refl _ _).alloc (Nat.le_refl _) _)
theorem Kept.drew (h : Kept S a w) : Kept S a w.drew := h.then (Below.refl _ _).drew
theorem Kept.setCell (h : Kept S a w) {p : Addr} (hp : p.block ∈ S ∨ a.heap.size ≤ p.block) (u : Value) : Kept S a (w.setCell p u) :=
  h.trans (S' := [p.block]) ⟨rfl, rfl, rfl, by simp [World.setCell], fun k hk hn => Below.heap_setCell _ _ _ _ (by simpa using hn)⟩ (fun k hk => by simp only [List.mem_singleton] at hk; subst hk; exact hp)

end
theorem Kept.grown {S : List Nat} {w w' : World} {row : Option Nat} (h : w.grownBy w' row) (hr : ∀ k, row = some k → k ∈ S) : Kept S w w' :=
  ⟨h.os, h.tape, h.output, h.size, fun k hk hn => h.block k hk (fun e => hn (hr k e.symm))⟩
/-- but for what is no cells from block B on, the world is as it was. -/
structure Calm (B : Nat) (w w' : World) : Prop where
  os : w'.os = w.os
  tape : w'.tape = w.tape
  output : w'.output = w.output
  size : w.heap.size ≤ w'.heap.size
  block : ∀ (k : Nat) (o : Obj), w.heap[k]? = some o → (k < B ∨ o.isCells = true) → w'.heap[k]? = some o
section
variable {B : Nat} {w w' : World}
theorem Calm.of_below (B : Nat) (h : Below w.heap.size w w') : Calm B w w' := ⟨h.os, h.tape, h.output, h.size, fun k _ hk _ => (h.block k (Array.getElem?_eq_some_iff.1 hk).1).trans hk⟩
theorem Calm.put {l : Nat} {o : Obj} (o' : Obj) (hl : w.heap[l]? = some o) (ho : o.isCells = false) (hB : B ≤ l) : Calm B w (w.putObj l o') :=
  ⟨rfl, rfl, rfl, by simp, fun k q hk hq => by
    have hne : k ≠ l := by
      rintro rfl
      rw [hl] at hk
      cases hk
      rcases hq with h | h
      · omega
      · rw [ho] at h; cases h
    exact (World.putObj_heap_other hne).trans hk⟩
theorem Calm.alloc (B : Nat) (w : World) (o : Obj) : Calm B w (w.alloc o) := Calm.of_below B ((Below.refl _ _).alloc (Nat.le_refl _) _)
theorem Calm.cell (h : Calm B w w') {p : Addr} {v : Value} (hc : w.cell? p = some v) : w'.cell? p = some v := by
  obtain ⟨o, ho, hcl⟩ := cells_of_cell hc
  exact (World.cell?_of_block (w := w) ((h.block _ _ ho (.inr hcl)).trans ho.symm)).trans hc
theorem Calm.own (h : Calm B w w') {g : Nat} {e : TypeId} {xs : List Value} (ho : Own w g e xs) : Own w' g e xs := h.block _ _ ho (.inr rfl)
theorem Kept.calm {S : List Nat} {a : World} (h : Kept S a w) (hk : Calm B w w') (hB : a.heap.size ≤ B) : Kept S a w' :=
  ⟨hk.os.trans h.os, hk.tape.trans h.tape, hk.output.trans h.output, Nat.le_trans h.size hk.size, fun k hlt hn => by
    have h1 := h.block k hlt hn
    have h2 : a.heap[k]? = some a.heap[k] := Array.getElem?_eq_getElem hlt
    rw [h2] at h1 ⊢
    exact hk.block k _ h1 (.inl (by omega))⟩
theorem Below.calm {n : Nat} {a : World} (h : Below n a w) (hk : Calm B w w') (hn : n ≤ a.heap.size) (hB : a.heap.size ≤ B) : Below n a w' :=
  ⟨hk.os.trans h.os, hk.tape.trans h.tape, hk.output.trans h.output, Nat.le_trans h.size hk.size, fun k hlt => by
    have h1 := h.block k hlt
    have h2 : a.heap[k]? = some a.heap[k] := Array.getElem?_eq_getElem (by omega)
    rw [h2] at h1 ⊢
    exact hk.block k _ h1 (.inl (by omega))⟩
/-- what a call that turns cells alone keeps. -/
theorem Kept.keeps {S : List Nat} (h : Kept S w w') (hc : ∀ k ∈ S, ∀ o, w.heap[k]? = some o → o.isCells = true) (B : Nat) : KeepsFrom B w w' :=
  ⟨h.size, fun k o _ hk ho => (h.block k (Array.getElem?_eq_some_iff.1 hk).1 (fun hs => by rw [hc k hs o hk] at ho; cases ho)).trans hk⟩
end

section
variable {F : Fence} {n : Nat} {P : Program}
end
end Go.Proofs.YtolnikpihedmbaaGreatDoor

namespace Go.Proofs.YtolnikpihedmbaaGreatDoor
open Go.RowKit Go.Deep Go.Shelf
attribute [local go_sem] Oper.semAt_some

/-- lex's tables and strconv's variables, as they are laid. -/
def Lays (w : World) : Prop := KeysAt w ∧ SignsAt w ∧ Tabs w
theorem KeysAt.below {w w' : World} (h : KeysAt w) (hb : Below w.heap.size w w') : KeysAt w' := fun j x hx => (hb.cell (p := ⟨2, j, none⟩) (World.block_lt_of_cell? w _ (h j x hx))).trans (h j x hx)
theorem SignsAt.below {w w' : World} (h : SignsAt w) (hb : Below w.heap.size w w') : SignsAt w' := fun j x hx => (hb.cell (p := ⟨1, j, none⟩) (World.block_lt_of_cell? w _ (h j x hx))).trans (h j x hx)
theorem Lays.below {w w' : World} (h : Lays w) (hb : Below w.heap.size w w') : Lays w' := ⟨h.1.below hb, h.2.1.below hb, h.2.2.below hb⟩
/-- they lie below a block, wherever else the world turns. -/
theorem Lays.keep {w a w' : World} (h : Lays w) (ha : Below w.heap.size w a) (hb : Below w.heap.size a w') : Lays w' := h.below (ha.trans hb)

/-- a token as the program has it. -/
def tokV (o : Option (Nat × List UInt8)) (k : Nat) : Value :=
  match o with
  | none => .agg #[.int .i64 0, .string noText, .int .i64 (k : Int)]
  | some (q, t) => .agg #[.int .i64 (q : Int), .string (bts t), .int .i64 (k : Int)]
theorem bts_list (l : List UInt8) : (bts l).data.toList = l := rfl
theorem kind_nil : kindW [] = 0 := by decide
theorem isempty_bts {l : List UInt8} (h : l ≠ []) : (bts l).toList.isEmpty = false := by
  rw [Lib.toList_data]
  cases l with
  | nil => exact absurd rfl h
  | cons c r => rfl

set_option maxRecDepth 100000 in
set_option maxHeartbeats 1000000 in
theorem read_any (s : ByteArray) (k : Nat) (w : World) (hs : s.size ≤ maxLen) (hs2 : s.size ≤ 281474976710656) (hk : k ≤ s.size) (hL : Lays w) :
    Calls Tryz.prog 72 #[.string s, .int .i64 k] w fun e w' => e = .returned (tokV (tokOf kindW (s.data.toList.drop k)) k) ∧ Below w.heap.size w w' := by
  have hz : (s.extract k s.size).size = s.size - k := by simp
  have HFW := Lib.hid (fun W => firstWord_any (s.extract k s.size) W (by omega))
  have HFS := Lib.hid (fun W => firstSign_any (s.extract k s.size) W)
  rw [drop_text] at HFW HFS
  have hwl : (s.data.toList.drop k).takeWhile wb = s.data.toList.drop k ∨ True := .inr trivial
  have hlen : ((s.data.toList.drop k).takeWhile wb).length ≤ s.size := by
    have h1 := (List.takeWhile_prefix (p := wb) (l := s.data.toList.drop k)).length_le
    simp at h1
    omega
  have HTk : Hid (tokOf kindW (s.data.toList.drop k) = if (s.data.toList.drop k).takeWhile wb = [] then (signOf (s.data.toList.drop k)).map fun p => (5, p) else if kindW ((s.data.toList.drop k).takeWhile wb) = 0 then none else some (kindW ((s.data.toList.drop k).takeWhile wb), (s.data.toList.drop k).takeWhile wb)) := rfl
  generalize (s.data.toList.drop k).takeWhile wb = W at HFW HTk hlen
  generalize signOf (s.data.toList.drop k) = sg at HFS HTk
  generalize tokOf kindW (s.data.toList.drop k) = tk at HTk ⊢
  clear hwl hz
  have hsz : (bts W).size ≤ s.size := by rw [bts_size]; exact hlen
  have HB0 : Below w.heap.size w (w.alloc (.cells #[.int .i64 0, .string noText, .int .i64 0] 113)) := (Below.refl _ _).alloc (Nat.le_refl _) _
  have hO := heap_alloc_new w (.cells #[.int .i64 0, .string noText, .int .i64 0] 113)
  have hO : Own (w.alloc (.cells #[.int .i64 0, .string noText, .int .i64 0] 113)) w.heap.size 113 [.int .i64 0, .string noText, .int .i64 0] := hO
  obtain ⟨w0, hw0⟩ : ∃ w0, w0 = w.alloc (.cells #[.int .i64 0, .string noText, .int .i64 0] 113) := ⟨_, rfl⟩
  rw [← hw0] at HB0 hO
  have HL0 := Lib.hid (hL.below HB0)
  have HB := Lib.hid HB0
  have HO := Lib.hid hO
  have HW := Lib.hid hw0
  have HWK := Lib.hid (wordKind_any (bts W) w0 (by omega) (by omega) HL0.out.1 HL0.out.2.2)
  rw [bts_list] at HWK
  clear HB0 hO hw0 hL
  unfold maxLen at hs
  by_cases hW : W = []
  · subst hW
    rw [kind_nil] at HWK
    go_enter Tryz.func72, Tryz.ntmps72
    go_wp2_with fail
    rw [← HW.out]
    refine (HFW.out w0).mono ?_
    rintro e w1 ⟨rfl, rfl⟩
    go_wp2_with fail
    refine HWK.out.mono ?_
    rintro e w1 ⟨rfl, b1⟩
    have B1 := Lib.hid (HB.out.trans (b1.mono HB.out.size))
    have HL1 := Lib.hid (HL0.out.below b1)
    have HO1 := Lib.hid (HO.out.below b1)
    clear b1 HWK HFW
    go_wp2_with fail
    refine (HFS.out w1 HL1.out.2.1).mono ?_
    rintro e w2 ⟨rfl, rfl⟩
    have c0 := HO1.out.cell 0
    have c1 := HO1.out.cell 1
    have c2 := HO1.out.cell 2
    have f0 := HO1.out.frozen 0
    have f1 := HO1.out.frozen 1
    have f2 := HO1.out.frozen 2
    have q0 := HO1.out.lt
    cases sg with
    | none =>
      simp only [signV]
      go_wp2
      exact bodyPost_ret (v := tokV tk k) (by rw [HTk.out]; simp [results, Tryz.results72, go_sem, tokV, (((HO1.out.set 0 (.int .i64 0)).set 1 (.string noText)).set 2 (.int .i64 (k : Int))).cell]) rfl ⟨rfl, ((B1.out.setCell (p := ⟨w.heap.size, 0, none⟩) (Nat.le_refl _) _).setCell (p := ⟨w.heap.size, 1, none⟩) (Nat.le_refl _) _).setCell (p := ⟨w.heap.size, 2, none⟩) (Nat.le_refl _) _⟩
    | some p =>
      simp only [signV]
      go_wp2
      exact bodyPost_ret (v := tokV tk k) (by rw [HTk.out]; simp [results, Tryz.results72, go_sem, tokV, (((HO1.out.set 0 (.int .i64 5)).set 1 (.string (bts p))).set 2 (.int .i64 (k : Int))).cell]) rfl ⟨rfl, ((B1.out.setCell (p := ⟨w.heap.size, 0, none⟩) (Nat.le_refl _) _).setCell (p := ⟨w.heap.size, 1, none⟩) (Nat.le_refl _) _).setCell (p := ⟨w.heap.size, 2, none⟩) (Nat.le_refl _) _⟩
  · have he := isempty_bts hW
    have HTk' : Hid (tk = if kindW W = 0 then none else some (kindW W, W)) := by show _ = _; rw [HTk.out, if_neg hW]
    have he2 : ((bts W).toList == []) = false := by
      cases hl : (bts W).toList with
      | nil => rw [hl] at he; cases he
      | cons _ _ => rfl
    generalize hq : kindW W = q at HWK HTk'
    obtain ⟨T, hT⟩ : ∃ T, T = bts W := ⟨_, rfl⟩
    rw [← hT] at HFW HWK he he2
    have HT := Lib.hid hT
    clear hT HTk hq hW hsz hlen HFS
    by_cases h0 : q = 0
    · subst h0
      go_enter Tryz.func72, Tryz.ntmps72
      go_wp2_with fail
      rw [← HW.out]
      refine (HFW.out w0).mono ?_
      rintro e w1 ⟨rfl, rfl⟩
      go_wp2_with fail
      refine HWK.out.mono ?_
      rintro e w1 ⟨rfl, b1⟩
      have B1 := Lib.hid (HB.out.trans (b1.mono HB.out.size))
      have HO1 := Lib.hid (HO.out.below b1)
      clear b1 HWK HFW
      have c0 := HO1.out.cell 0
      have c1 := HO1.out.cell 1
      have c2 := HO1.out.cell 2
      have f0 := HO1.out.frozen 0
      have f1 := HO1.out.frozen 1
      have f2 := HO1.out.frozen 2
      have q0 := HO1.out.lt
      go_wp2
      exact bodyPost_ret (v := tokV tk k) (by rw [HTk'.out]; simp [results, Tryz.results72, go_sem, tokV, (((HO1.out.set 0 (.int .i64 0)).set 1 (.string noText)).set 2 (.int .i64 (k : Int))).cell]) rfl ⟨rfl, ((B1.out.setCell (p := ⟨w.heap.size, 0, none⟩) (Nat.le_refl _) _).setCell (p := ⟨w.heap.size, 1, none⟩) (Nat.le_refl _) _).setCell (p := ⟨w.heap.size, 2, none⟩) (Nat.le_refl _) _⟩
    · have h00 : ((q : Int) == 0) = false := by simp only [beq_eq_false_iff_ne]; omega
      have HN := Lib.hid h0
      clear h0
      go_enter Tryz.func72, Tryz.ntmps72
      go_wp2_with fail
      rw [← HW.out]
      refine (HFW.out w0).mono ?_
      rintro e w1 ⟨rfl, rfl⟩
      go_wp2_with fail
      refine HWK.out.mono ?_
      rintro e w1 ⟨rfl, b1⟩
      have B1 := Lib.hid (HB.out.trans (b1.mono HB.out.size))
      have HO1 := Lib.hid (HO.out.below b1)
      clear b1 HWK HFW
      have c0 := HO1.out.cell 0
      have c1 := HO1.out.cell 1
      have c2 := HO1.out.cell 2
      have f0 := HO1.out.frozen 0
      have f1 := HO1.out.frozen 1
      have f2 := HO1.out.frozen 2
      have q0 := HO1.out.lt
      go_wp2
      exact bodyPost_ret (v := tokV tk k) (by rw [HTk'.out, if_neg HN.out]; simp only [tokV]; rw [← HT.out]; simp [results, Tryz.results72, go_sem, (((HO1.out.set 0 (.int .i64 (q : Int))).set 1 (.string T)).set 2 (.int .i64 (k : Int))).cell]) rfl ⟨rfl, ((B1.out.setCell (p := ⟨w.heap.size, 0, none⟩) (Nat.le_refl _) _).setCell (p := ⟨w.heap.size, 1, none⟩) (Nat.le_refl _) _).setCell (p := ⟨w.heap.size, 2, none⟩) (Nat.le_refl _) _⟩
end Go.Proofs.YtolnikpihedmbaaGreatDoor

namespace Go.Proofs.YtolnikpihedmbaaGreatDoor
open Go.RowKit Go.Deep Go.Shelf
attribute [local go_sem] Oper.semAt_some

/-- the blocks that a loop's body may turn: Z, the box B, and the row that the box's cell i names. -/
def footL (Z : List Nat) (B i : Nat) (W : World) : List Nat :=
  Z ++ B :: (match W.cell? ⟨B, i, none⟩ with | some (.slice (some a) _ _) => [a.block] | _ => [])
/-- what a body that turns these alone keeps. -/
structure Kf (Z : List Nat) (B i : Nat) (w w' : World) : Prop where
  os : w'.os = w.os
  tape : w'.tape = w.tape
  output : w'.output = w.output
  size : w.heap.size ≤ w'.heap.size
  block : ∀ (k : Nat) (o : Obj), w.heap[k]? = some o → o.isCells = true → k ∉ footL Z B i w → w'.heap[k]? = some o
  sub : Sub (footL Z B i w') (footL Z B i w) w.heap.size
  lt : (∀ k ∈ footL Z B i w, k < w.heap.size) → ∀ k ∈ footL Z B i w', k < w'.heap.size
section
variable {Z : List Nat} {B i : Nat} {w w' X Y W : World}
theorem foot_same (h : Y.cell? ⟨B, i, none⟩ = X.cell? ⟨B, i, none⟩) : footL Z B i Y = footL Z B i X := by unfold footL; rw [h]
theorem Kf.refl (w : World) : Kf Z B i w w := ⟨rfl, rfl, rfl, Nat.le_refl _, fun _ _ h _ _ => h, Sub.refl _ _, fun h => h⟩
theorem Kf.trans (h : Kf Z B i X Y) (h' : Kf Z B i Y W) : Kf Z B i X W :=
  ⟨h'.os.trans h.os, h'.tape.trans h.tape, h'.output.trans h.output, Nat.le_trans h.size h'.size, fun k o hk ho hn => h'.block k o (h.block k o hk ho hn) ho (fun hm => by
    rcases h.sub k hm with h1 | h1
    · exact hn h1
    · have := (Array.getElem?_eq_some_iff.1 hk).1
      omega), h.sub.trans h'.sub h.size, fun h0 => h'.lt (h.lt h0)⟩
theorem Kf.of_below (h : Below X.heap.size X Y) (hB : B < X.heap.size) : Kf Z B i X Y :=
  ⟨h.os, h.tape, h.output, h.size, fun k _ hk _ _ => (h.block k (Array.getElem?_eq_some_iff.1 hk).1).trans hk, by rw [foot_same (h.cell (p := ⟨B, i, none⟩) hB)]; exact Sub.refl _ _, fun h0 k hk => by rw [foot_same (h.cell (p := ⟨B, i, none⟩) hB)] at hk; exact Nat.lt_of_lt_of_le (h0 k hk) h.size⟩
theorem calm_cell {n : Nat} (h : Calm n X Y) (hB : B < X.heap.size) (hn : B < n) : Y.cell? ⟨B, i, none⟩ = X.cell? ⟨B, i, none⟩ := by
  have h2 : X.heap[B]? = some X.heap[B] := Array.getElem?_eq_getElem hB
  exact World.cell?_of_block (w := X) (a := ⟨B, i, none⟩) ((h.block B _ h2 (.inl hn)).trans h2.symm)
theorem Kf.of_calm {n : Nat} (h : Calm n X Y) (hB : B < X.heap.size) (hn : B < n) : Kf Z B i X Y :=
  ⟨h.os, h.tape, h.output, h.size, fun k o hk ho _ => h.block k o hk (.inr ho), by rw [foot_same (calm_cell h hB hn)]; exact Sub.refl _ _, fun h0 k hk => by rw [foot_same (calm_cell h hB hn)] at hk; exact Nat.lt_of_lt_of_le (h0 k hk) h.size⟩
theorem Kf.of_kept {S : List Nat} (h : Kept S X Y) (hs : ∀ k ∈ S, k ∈ footL Z B i X) (hf : Sub (footL Z B i Y) (footL Z B i X) X.heap.size) (hlt : ∀ k ∈ footL Z B i Y, k < Y.heap.size) : Kf Z B i X Y :=
  ⟨h.os, h.tape, h.output, h.size, fun k _ hk _ hn => (h.block k (Array.getElem?_eq_some_iff.1 hk).1 (fun hm => hn (hs k hm))).trans hk, hf, fun _ => hlt⟩
theorem Kf.calm (h : Kf Z B i X Y) (hf : ∀ k ∈ footL Z B i X, W.heap.size ≤ k) (h0 : Calm 0 W X) : Calm 0 W Y :=
  ⟨h.os.trans h0.os, h.tape.trans h0.tape, h.output.trans h0.output, Nat.le_trans h0.size h.size, fun k o hk ho => by
    have hc : o.isCells = true := by
      rcases ho with h1 | h1
      · omega
      · exact h1
    refine h.block k o (h0.block k o hk ho) hc (fun hm => ?_)
    have := hf k hm
    have := (Array.getElem?_eq_some_iff.1 hk).1
    omega⟩
theorem Kf.cell (h : Kf Z B i X Y) {p : Addr} {v : Value} (hc : X.cell? p = some v) (hn : p.block ∉ footL Z B i X) : Y.cell? p = some v := by
  obtain ⟨o, ho, hcl⟩ := cells_of_cell hc
  exact (World.cell?_of_block (w := X) ((h.block _ _ ho hcl hn).trans ho.symm)).trans hc
theorem Kf.own (h : Kf Z B i X Y) {g : Nat} {e : TypeId} {xs : List Value} (ho : Own X g e xs) (hn : g ∉ footL Z B i X) : Own Y g e xs := h.block _ _ ho rfl hn
theorem Calm.trans {n : Nat} (h : Calm n X Y) (h' : Calm n Y W) : Calm n X W :=
  ⟨h'.os.trans h.os, h'.tape.trans h.tape, h'.output.trans h.output, Nat.le_trans h.size h'.size, fun k o hk ho => h'.block k o (h.block k o hk ho) ho⟩
theorem Calm.zero {n : Nat} (h : Calm n X Y) : Calm 0 X Y := ⟨h.os, h.tape, h.output, h.size, fun k o hk ho => h.block k o hk (by
  rcases ho with h1 | h1
  · omega
  · exact .inr h1)⟩
end
theorem Own.inj {W : World} {g : Nat} {e e' : TypeId} {us us' : List Value} (h : Own W g e us) (h' : Own W g e' us') : e = e' := by
  unfold Own at h h'
  rw [h] at h'
  injection h' with h'
  injection h' with _ h' _

theorem foot_int {W : World} {B : Nat} {n : Int} (Z : List Nat) (h : W.cell? ⟨B, 0, none⟩ = some (.int .i64 n)) : footL Z B 0 W = Z ++ [B] := by
  unfold footL
  rw [h]
/-- the blocks of the variables that are laid lie below n. -/
def Gl (n : Nat) : Prop := 2 < n ∧ 1 < n ∧ 4 < n ∧ 5 < n ∧ 6 < n
theorem var_lt {n : String} {g : Nat} {cs : Array Value} {w : World} (hg : Tryz.prog.globalNamed n = some g) (h : World.var? Tryz.prog w n = some cs) : ∃ t f, w.heap[g]? = some (.cells cs t f) := by
  simp only [World.var?, hg, Option.bind_some] at h
  split at h
  · rename_i cs' t f he
    cases h
    exact ⟨t, f, he⟩
  · cases h
theorem var_of {n : String} {g : Nat} {cs : Array Value} {t : TypeId} {f : Nat × Nat} {w : World} (hg : Tryz.prog.globalNamed n = some g) (h : w.heap[g]? = some (.cells cs t f)) : World.var? Tryz.prog w n = some cs := by
  simp only [World.var?, hg, Option.bind_some, h]
theorem Lays.gl {w : World} (h : Lays w) : Gl w.heap.size := by
  obtain ⟨h1, h2, h3, ⟨_, _, h4⟩, ⟨_, _, h5⟩⟩ := h
  obtain ⟨_, _, e3⟩ := var_lt gPow h3
  obtain ⟨_, _, e4⟩ := var_lt gSyn h4
  obtain ⟨_, _, e5⟩ := var_lt gRng h5
  exact ⟨World.block_lt_of_cell? w _ (h1 0 _ rfl), World.block_lt_of_cell? w _ (h2 0 _ rfl), (Array.getElem?_eq_some_iff.1 e4).1, (Array.getElem?_eq_some_iff.1 e5).1, (Array.getElem?_eq_some_iff.1 e3).1⟩
theorem Gl.more {n m : Nat} (h : Gl n) (hm : n ≤ m) : Gl m := ⟨Nat.lt_of_lt_of_le h.1 hm, Nat.lt_of_lt_of_le h.2.1 hm, Nat.lt_of_lt_of_le h.2.2.1 hm, Nat.lt_of_lt_of_le h.2.2.2.1 hm, Nat.lt_of_lt_of_le h.2.2.2.2 hm⟩
theorem var_kf {Z : List Nat} {B i n0 : Nat} {X Y : World} {n : String} {g : Nat} {cs : Array Value} (hk : Kf Z B i X Y) (hf : ∀ k ∈ footL Z B i X, n0 ≤ k) (hl : g < n0) (hg : Tryz.prog.globalNamed n = some g) (h : World.var? Tryz.prog X n = some cs) : World.var? Tryz.prog Y n = some cs := by
  obtain ⟨t, f, he⟩ := var_lt hg h
  exact var_of hg (hk.block g _ he rfl (fun hm => by have := hf g hm; omega))
theorem Lays.kf {Z : List Nat} {B i n0 : Nat} {X Y : World} (h : Lays X) (hk : Kf Z B i X Y) (hf : ∀ k ∈ footL Z B i X, n0 ≤ k) (hG : Gl n0) : Lays Y := by
  obtain ⟨h1, h2, h3, ⟨t4, p4, h4⟩, ⟨t5, p5, h5⟩⟩ := h
  obtain ⟨g1, g2, g3, g4, g5⟩ := hG
  exact ⟨fun j x hx => hk.cell (h1 j x hx) (fun hm => by have := hf _ hm; simp only at this; omega), fun j x hx => hk.cell (h2 j x hx) (fun hm => by have := hf _ hm; simp only at this; omega),
    var_kf hk hf g5 gPow h3, ⟨t4, p4, var_kf hk hf g3 gSyn h4⟩, ⟨t5, p5, var_kf hk hf g4 gRng h5⟩⟩

theorem skip_twice (l : List UInt8) : skipN false (l.drop (skipN false l)) = 0 := by
  cases h : l.drop (skipN false l) with
  | nil => rfl
  | cons c r =>
    obtain ⟨h1, h2⟩ := skip_head l false c r h
    exact skip_no h1 h2
theorem tok_kind {l : List UInt8} {q : Nat} {t : List UInt8} (h : tokOf kindW l = some (q, t)) : q ≠ 0 := by
  unfold tokOf at h
  split at h
  · rw [Option.map_eq_some_iff] at h
    obtain ⟨p, _, h2⟩ := h
    injection h2 with h1 _
    omega
  · split at h
    · cases h
    · rename_i hk
      injection h with h
      injection h with h1 _
      omega
/-- what the iterator yields. -/
def yOf (R : List Tk × Option Nat) : List Tk := R.1 ++ (match R.2 with | none => [] | some p => [(0, [], p)])
/-- the error beside a token. -/
def errT (q : Nat) : Value := if q = 0 then eno 2 else .nilIface
abbrev tkV (x : Tk) : Value := .agg #[.int .i64 (x.1 : Int), .string (bts x.2.1), .int .i64 (x.2.2 : Int)]
theorem yOf_end (o : Nat) (l : List UInt8) (h : l = []) : yOf (lexA kindW o l) = [] := by
  subst h
  rw [lexA_end rfl]
  rfl
theorem yOf_bad {o : Nat} {l : List UInt8} (h0 : skipN false l = 0) (hn : l ≠ []) (ht : tokOf kindW l = none) : yOf (lexA kindW o l) = [(0, [], o)] := by
  rw [lexA_bad (by rw [h0]; exact hn) (by rw [h0]; exact ht), h0]
  rfl
theorem yOf_tok {o q : Nat} {l t : List UInt8} (h0 : skipN false l = 0) (hn : l ≠ []) (ht : tokOf kindW l = some (q, t)) :
    yOf (lexA kindW o l) = (q, t, o) :: yOf (lexA kindW (o + t.length + skipN false (l.drop t.length)) (l.drop (t.length + skipN false (l.drop t.length)))) := by
  rw [lexA_tok (by rw [h0]; exact hn) (by rw [h0]; exact ht), h0]
  simp only [List.drop_zero, Nat.add_zero]
  rw [lexA_skip (o + t.length) (l.drop t.length) (skipN false (l.drop t.length)) (by rw [skip_twice]; rfl), List.drop_drop]
  rfl
end Go.Proofs.YtolnikpihedmbaaGreatDoor
