/- What a loop's body may turn; the iterator over all tokens. Conditions: texts of at most 2^47 bytes; lex's two tables and strconv's variables as they are laid. -/
import Derived.Test.YtlfakhjcpdkaiaaGreatDoorLexE
namespace Go.Proofs.YtlfakhjcpdkaiaaGreatDoor
open Go.RowKit Go.Deep Go.Shelf
attribute [local go_sem] Oper.semAt_some

/-- the blocks that a loop's body may turn: Z, the box B, and the row that the box's cell i names. -/
def footL (Z : List Nat) (B i : Nat) (W : World) : List Nat :=
  Z ++ B :: (match W.cell? ⟨B, i, none⟩ with | some (.slice (some a) _ _) => [a.block] | _ => [])
/-- what a body that turns these alone keeps. -/
structure Kf (Z : List Nat) (B i : Nat) (w w' : World) : Prop where
  os : w'.os = w.os
  tape : w'.tape = w.tape
  output : w'.output = w.output
  size : w.heap.size ≤ w'.heap.size
  block : ∀ (k : Nat) (o : Obj), w.heap[k]? = some o → o.isCells = true → k ∉ footL Z B i w → w'.heap[k]? = some o
  sub : Sub (footL Z B i w') (footL Z B i w) w.heap.size
  lt : (∀ k ∈ footL Z B i w, k < w.heap.size) → ∀ k ∈ footL Z B i w', k < w'.heap.size
section
variable {Z : List Nat} {B i : Nat} {w w' X Y W : World}
theorem foot_same (h : Y.cell? ⟨B, i, none⟩ = X.cell? ⟨B, i, none⟩) : footL Z B i Y = footL Z B i X := by unfold footL; rw [h]
theorem Kf.refl (w : World) : Kf Z B i w w := ⟨rfl, rfl, rfl, Nat.le_refl _, fun _ _ h _ _ => h, Sub.refl _ _, fun h => h⟩
theorem Kf.trans (h : Kf Z B i X Y) (h' : Kf Z B i Y W) : Kf Z B i X W :=
  ⟨h'.os.trans h.os, h'.tape.trans h.tape, h'.output.trans h.output, Nat.le_trans h.size h'.size, fun k o hk ho hn => h'.block k o (h.block k o hk ho hn) ho (fun hm => by
    rcases h.sub k hm with h1 | h1
    · exact hn h1
    · have := (Array.getElem?_eq_some_iff.1 hk).1
      omega), h.sub.trans h'.sub h.size, fun h0 => h'.lt (h.lt h0)⟩
theorem Kf.of_below (h : Below X.heap.size X Y) (hB : B < X.heap.size) : Kf Z B i X Y :=
  ⟨h.os, h.tape, h.output, h.size, fun k _ hk _ _ => (h.block k (Array.getElem?_eq_some_iff.1 hk).1).trans hk, by rw [foot_same (h.cell (p := ⟨B, i, none⟩) hB)]; exact Sub.refl _ _, fun h0 k hk => by rw [foot_same (h.cell (p := ⟨B, i, none⟩) hB)] at hk; exact Nat.lt_of_lt_of_le (h0 k hk) h.size⟩
theorem calm_cell {n : Nat} (h : Calm n X Y) (hB : B < X.heap.size) (hn : B < n) : Y.cell? ⟨B, i, none⟩ = X.cell? ⟨B, i, none⟩ := by
  have h2 : X.heap[B]? = some X.heap[B] := Array.getElem?_eq_getElem hB
  exact World.cell?_of_block (w := X) (a := ⟨B, i, none⟩) ((h.block B _ h2 (.inl hn)).trans h2.symm)
theorem Kf.of_calm {n : Nat} (h : Calm n X Y) (hB : B < X.heap.size) (hn : B < n) : Kf Z B i X Y :=
  ⟨h.os, h.tape, h.output, h.size, fun k o hk ho _ => h.block k o hk (.inr ho), by rw [foot_same (calm_cell h hB hn)]; exact Sub.refl _ _, fun h0 k hk => by rw [foot_same (calm_cell h hB hn)] at hk; exact Nat.lt_of_lt_of_le (h0 k hk) h.size⟩
theorem Kf.of_kept {S : List Nat} (h : Kept S X Y) (hs : ∀ k ∈ S, k ∈ footL Z B i X) (hf : Sub (footL Z B i Y) (footL Z B i X) X.heap.size) (hlt : ∀ k ∈ footL Z B i Y, k < Y.heap.size) : Kf Z B i X Y :=
  ⟨h.os, h.tape, h.output, h.size, fun k _ hk _ hn => (h.block k (Array.getElem?_eq_some_iff.1 hk).1 (fun hm => hn (hs k hm))).trans hk, hf, fun _ => hlt⟩
theorem Kf.calm (h : Kf Z B i X Y) (hf : ∀ k ∈ footL Z B i X, W.heap.size ≤ k) (h0 : Calm 0 W X) : Calm 0 W Y :=
  ⟨h.os.trans h0.os, h.tape.trans h0.tape, h.output.trans h0.output, Nat.le_trans h0.size h.size, fun k o hk ho => by
    have hc : o.isCells = true := by
      rcases ho with h1 | h1
      · omega
      · exact h1
    refine h.block k o (h0.block k o hk ho) hc (fun hm => ?_)
    have := hf k hm
    have := (Array.getElem?_eq_some_iff.1 hk).1
    omega⟩
theorem Kf.cell (h : Kf Z B i X Y) {p : Addr} {v : Value} (hc : X.cell? p = some v) (hn : p.block ∉ footL Z B i X) : Y.cell? p = some v := by
  obtain ⟨o, ho, hcl⟩ := cells_of_cell hc
  exact (World.cell?_of_block (w := X) ((h.block _ _ ho hcl hn).trans ho.symm)).trans hc
theorem Kf.own (h : Kf Z B i X Y) {g : Nat} {e : TypeId} {xs : List Value} (ho : Own X g e xs) (hn : g ∉ footL Z B i X) : Own Y g e xs := h.block _ _ ho rfl hn
theorem Calm.trans {n : Nat} (h : Calm n X Y) (h' : Calm n Y W) : Calm n X W :=
  ⟨h'.os.trans h.os, h'.tape.trans h.tape, h'.output.trans h.output, Nat.le_trans h.size h'.size, fun k o hk ho => h'.block k o (h.block k o hk ho) ho⟩
theorem Calm.zero {n : Nat} (h : Calm n X Y) : Calm 0 X Y := ⟨h.os, h.tape, h.output, h.size, fun k o hk ho => h.block k o hk (by
  rcases ho with h1 | h1
  · omega
  · exact .inr h1)⟩
end
theorem Own.inj {W : World} {g : Nat} {e e' : TypeId} {us us' : List Value} (h : Own W g e us) (h' : Own W g e' us') : e = e' := by
  unfold Own at h h'
  rw [h] at h'
  injection h' with h'
  injection h' with _ h' _

theorem foot_int {W : World} {B : Nat} {n : Int} (Z : List Nat) (h : W.cell? ⟨B, 0, none⟩ = some (.int .i64 n)) : footL Z B 0 W = Z ++ [B] := by
  unfold footL
  rw [h]
/-- the blocks of the variables that are laid lie below n. -/
def Gl (n : Nat) : Prop := 1 < n ∧ 0 < n ∧ 3 < n ∧ 4 < n ∧ 5 < n
theorem var_lt {n : String} {g : Nat} {cs : Array Value} {w : World} (hg : Tryz.prog.globalNamed n = some g) (h : World.var? Tryz.prog w n = some cs) : ∃ t f, w.heap[g]? = some (.cells cs t f) := by
  simp only [World.var?, hg, Option.bind_some] at h
  split at h
  · rename_i cs' t f he
    cases h
    exact ⟨t, f, he⟩
  · cases h
theorem var_of {n : String} {g : Nat} {cs : Array Value} {t : TypeId} {f : Nat × Nat} {w : World} (hg : Tryz.prog.globalNamed n = some g) (h : w.heap[g]? = some (.cells cs t f)) : World.var? Tryz.prog w n = some cs := by
  simp only [World.var?, hg, Option.bind_some, h]
theorem Lays.gl {w : World} (h : Lays w) : Gl w.heap.size := by
  obtain ⟨h1, h2, h3, ⟨_, _, h4⟩, ⟨_, _, h5⟩⟩ := h
  obtain ⟨_, _, e3⟩ := var_lt gPow h3
  obtain ⟨_, _, e4⟩ := var_lt gSyn h4
  obtain ⟨_, _, e5⟩ := var_lt gRng h5
  exact ⟨World.block_lt_of_cell? w _ (h1 0 _ rfl), World.block_lt_of_cell? w _ (h2 0 _ rfl), (Array.getElem?_eq_some_iff.1 e4).1, (Array.getElem?_eq_some_iff.1 e5).1, (Array.getElem?_eq_some_iff.1 e3).1⟩
theorem Gl.more {n m : Nat} (h : Gl n) (hm : n ≤ m) : Gl m := ⟨Nat.lt_of_lt_of_le h.1 hm, Nat.lt_of_lt_of_le h.2.1 hm, Nat.lt_of_lt_of_le h.2.2.1 hm, Nat.lt_of_lt_of_le h.2.2.2.1 hm, Nat.lt_of_lt_of_le h.2.2.2.2 hm⟩
theorem var_kf {Z : List Nat} {B i n0 : Nat} {X Y : World} {n : String} {g : Nat} {cs : Array Value} (hk : Kf Z B i X Y) (hf : ∀ k ∈ footL Z B i X, n0 ≤ k) (hl : g < n0) (hg : Tryz.prog.globalNamed n = some g) (h : World.var? Tryz.prog X n = some cs) : World.var? Tryz.prog Y n = some cs := by
  obtain ⟨t, f, he⟩ := var_lt hg h
  exact var_of hg (hk.block g _ he rfl (fun hm => by have := hf g hm; omega))
theorem Lays.kf {Z : List Nat} {B i n0 : Nat} {X Y : World} (h : Lays X) (hk : Kf Z B i X Y) (hf : ∀ k ∈ footL Z B i X, n0 ≤ k) (hG : Gl n0) : Lays Y := by
  obtain ⟨h1, h2, h3, ⟨t4, p4, h4⟩, ⟨t5, p5, h5⟩⟩ := h
  obtain ⟨g1, g2, g3, g4, g5⟩ := hG
  exact ⟨fun j x hx => hk.cell (h1 j x hx) (fun hm => by have := hf _ hm; simp only at this; omega), fun j x hx => hk.cell (h2 j x hx) (fun hm => by have := hf _ hm; simp only at this; omega),
    var_kf hk hf g5 gPow h3, ⟨t4, p4, var_kf hk hf g3 gSyn h4⟩, ⟨t5, p5, var_kf hk hf g4 gRng h5⟩⟩

theorem skip_twice (l : List UInt8) : skipN false (l.drop (skipN false l)) = 0 := by
  cases h : l.drop (skipN false l) with
  | nil => rfl
  | cons c r =>
    obtain ⟨h1, h2⟩ := skip_head l false c r h
    exact skip_no h1 h2
theorem tok_kind {l : List UInt8} {q : Nat} {t : List UInt8} (h : tokOf kindW l = some (q, t)) : q ≠ 0 := by
  unfold tokOf at h
  split at h
  · rw [Option.map_eq_some_iff] at h
    obtain ⟨p, _, h2⟩ := h
    injection h2 with h1 _
    omega
  · split at h
    · cases h
    · rename_i hk
      injection h with h
      injection h with h1 _
      omega
/-- what the iterator yields. -/
def yOf (R : List Tk × Option Nat) : List Tk := R.1 ++ (match R.2 with | none => [] | some p => [(0, [], p)])
/-- the error beside a token. -/
def errT (q : Nat) : Value := if q = 0 then eno 2 else .nilIface
abbrev tkV (x : Tk) : Value := .agg #[.int .i64 (x.1 : Int), .string (bts x.2.1), .int .i64 (x.2.2 : Int)]
theorem yOf_end (o : Nat) (l : List UInt8) (h : l = []) : yOf (lexA kindW o l) = [] := by
  subst h
  rw [lexA_end rfl]
  rfl
theorem yOf_bad {o : Nat} {l : List UInt8} (h0 : skipN false l = 0) (hn : l ≠ []) (ht : tokOf kindW l = none) : yOf (lexA kindW o l) = [(0, [], o)] := by
  rw [lexA_bad (by rw [h0]; exact hn) (by rw [h0]; exact ht), h0]
  rfl
theorem yOf_tok {o q : Nat} {l t : List UInt8} (h0 : skipN false l = 0) (hn : l ≠ []) (ht : tokOf kindW l = some (q, t)) :
    yOf (lexA kindW o l) = (q, t, o) :: yOf (lexA kindW (o + t.length + skipN false (l.drop t.length)) (l.drop (t.length + skipN false (l.drop t.length)))) := by
  rw [lexA_tok (by rw [h0]; exact hn) (by rw [h0]; exact ht), h0]
  simp only [List.drop_zero, Nat.add_zero]
  rw [lexA_skip (o + t.length) (l.drop t.length) (skipN false (l.drop t.length)) (by rw [skip_twice]; rfl), List.drop_drop]
  rfl
end Go.Proofs.YtlfakhjcpdkaiaaGreatDoor
