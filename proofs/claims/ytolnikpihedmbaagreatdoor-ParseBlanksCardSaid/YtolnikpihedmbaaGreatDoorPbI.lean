/- The reader in memory; its smallest parts. Conditions: what is laid (lex's tables, strconv's variables, the table of words) lies ahead of the reader. The reader: what is next, what is taken, what is needed. Conditions: as ParE's. The reader's lists: each item is read by a function. Conditions: as ParE's. -/
import Derived.Test.YtolnikpihedmbaaGreatDoorPbE
import Derived.Test.YtolnikpihedmbaaGreatDoorPbF
import Derived.Test.YtolnikpihedmbaaGreatDoorPbH
import Derived.WalkMore
set_option linter.unusedVariables false
set_option linter.unusedSimpArgs false
namespace Go.Proofs.YtolnikpihedmbaaGreatDoor
open Go.RowKit Go.Deep Go.Shelf

theorem infoTok : (Tryz.prog.info? 113).map (·.size) = some 3 := by kernel_rfl
/-- the table of words, as it is laid. -/
def WordsAt (w : World) : Prop := ∀ (j : Nat) x, wordsL[j]? = some x → w.cell? ⟨0, j * 3, none⟩ = some (.int .i64 (x.1 : Int)) ∧ w.cell? ⟨0, j * 3 + 1, none⟩ = some (.string (bts x.2.1)) ∧ w.cell? ⟨0, j * 3 + 2, none⟩ = some (.int .i64 (x.2.2 : Int))
/-- what is laid, and that it lies ahead of a block. -/
structure Env (R : Nat) (w : World) : Prop where
  lays : Lays w
  words : WordsAt w
  gl : Gl R
  glw : 0 < R
theorem var_low {R : Nat} {w w' : World} {n : String} {g : Nat} {cs : Array Value} (hb : Below R w w') (hl : g < R) (hg : Tryz.prog.globalNamed n = some g) (h : World.var? Tryz.prog w n = some cs) : World.var? Tryz.prog w' n = some cs := by
  obtain ⟨t, f, he⟩ := var_lt hg h
  exact var_of hg ((hb.block g hl).trans he)
theorem Lays.low {R : Nat} {w w' : World} (h : Lays w) (hb : Below R w w') (hG : Gl R) : Lays w' := by
  obtain ⟨h1, h2, h3, ⟨t4, p4, h4⟩, ⟨t5, p5, h5⟩⟩ := h
  obtain ⟨g1, g2, g3, g4, g5⟩ := hG
  exact ⟨fun j x hx => (hb.cell (p := ⟨_, j, none⟩) g1).trans (h1 j x hx), fun j x hx => (hb.cell (p := ⟨_, j, none⟩) g2).trans (h2 j x hx),
    var_low hb g5 gPow h3, ⟨t4, p4, var_low hb g3 gSyn h4⟩, ⟨t5, p5, var_low hb g4 gRng h5⟩⟩
theorem WordsAt.low {R : Nat} {w w' : World} (h : WordsAt w) (hb : Below R w w') (hG : 0 < R) : WordsAt w' := fun j x hx => by
  obtain ⟨h1, h2, h3⟩ := h j x hx
  exact ⟨(hb.cell (p := ⟨_, _, none⟩) hG).trans h1, (hb.cell (p := ⟨_, _, none⟩) hG).trans h2, (hb.cell (p := ⟨_, _, none⟩) hG).trans h3⟩
theorem Env.low {R : Nat} {w w' : World} (h : Env R w) (hb : Below R w w') : Env R w' := ⟨h.lays.low hb h.gl, h.words.low hb h.glw, h.gl, h.glw⟩
/-- tokens in a row that lies ahead of a block. -/
def TkR (w : World) (R : Nat) (A : Option Addr) (l : List Tk) : Prop :=
  0 < l.length → ∃ b o, A = some ⟨b, o, none⟩ ∧ b < R ∧ ∀ (i : Nat) x, l[i]? = some x → w.cell? ⟨b, o + i * 3, none⟩ = some (.int .i64 (x.1 : Int)) ∧ w.cell? ⟨b, o + i * 3 + 1, none⟩ = some (.string (bts x.2.1)) ∧ w.cell? ⟨b, o + i * 3 + 2, none⟩ = some (.int .i64 (x.2.2 : Int))
theorem TkR.low {R : Nat} {w w' : World} {A : Option Addr} {l : List Tk} (h : TkR w R A l) (hb : Below R w w') : TkR w' R A l := fun h0 => by
  obtain ⟨b, o, h1, h2, h3⟩ := h h0
  refine ⟨b, o, h1, h2, fun i x hx => ?_⟩
  obtain ⟨c0, c1, c2⟩ := h3 i x hx
  exact ⟨(hb.cell (p := ⟨b, _, none⟩) h2).trans c0, (hb.cell (p := ⟨b, _, none⟩) h2).trans c1, (hb.cell (p := ⟨b, _, none⟩) h2).trans c2⟩
theorem TkR.nil (w : World) (R : Nat) (A : Option Addr) : TkR w R A [] := fun h => absurd h (Nat.lt_irrefl _)
theorem TkR.tail {w : World} {R : Nat} {b o : Nat} {x : Tk} {l : List Tk} (h : TkR w R (some ⟨b, o, none⟩) (x :: l)) (c : Nat) (hc : l.length + 1 ≤ c) :
    TkR w R (if c = 1 then some ⟨b, o, none⟩ else some ⟨b, o + 3, none⟩) l := fun h0 => by
  obtain ⟨b', o', h1, h2, h3⟩ := h (by simp)
  injection h1 with h1
  injection h1 with h4 h5
  subst h4 h5
  rw [if_neg (by omega)]
  refine ⟨b, o + 3, rfl, h2, fun i y hy => ?_⟩
  have h6 := h3 (i + 1) y (by simpa using hy)
  rw [show o + (i + 1) * 3 = o + 3 + i * 3 by omega] at h6
  exact h6
/-- what is known of a reader's tokens. -/
structure Toks (l : List Tk) : Prop where
  ok : OkT l
  len : l.length ≤ 4000
  size : ∀ x ∈ l, x.2.1.length ≤ 4000
theorem Toks.sub {l l' : List Tk} (h : Toks l) (h1 : ∀ x ∈ l', x ∈ l) (h2 : l'.length ≤ l.length) : Toks l' := ⟨h.ok.sub h1, Nat.le_trans h2 h.len, fun x hx => h.size x (h1 x hx)⟩
theorem Toks.st {e : Nat} {s s' : PS} (h : Toks s.rest) (hs : Stp e s s') : Toks s'.rest := h.sub hs.sub hs.len
abbrev rdL (A : Option Addr) (c e : Nat) (s : PS) : List Value := [.slice A s.rest.length c, .int .i64 (e : Int), .int .i64 (s.flt : Int), .int .i64 (s.pos : Int)]
/-- a reader. -/
structure Rdr (R e : Nat) (w : World) (s : PS) : Prop where
  own : ∃ A c, Own w R 89 (rdL A c e s) ∧ s.rest.length ≤ c ∧ TkR w R A s.rest
  env : Env R w
  tok : Toks s.rest
theorem Rdr.lt {R e : Nat} {w : World} {s : PS} (h : Rdr R e w s) : R < w.heap.size := by
  obtain ⟨A, c, h1, _⟩ := h.own
  exact h1.lt
theorem Rdr.low {R e : Nat} {w w' : World} {s : PS} (h : Rdr R e w s) (hb : Below (R + 1) w w') : Rdr R e w' s := by
  obtain ⟨A, c, h1, h2, h3⟩ := h.own
  have hb' : Below R w w' := hb.mono (Nat.le_succ _)
  exact ⟨⟨A, c, h1.keep hb (Nat.lt_succ_self _), h2, h3.low hb'⟩, h.env.low hb', h.tok⟩
theorem Rdr.below {R e : Nat} {w w' : World} {s : PS} (h : Rdr R e w s) (hb : Below w.heap.size w w') : Rdr R e w' s := h.low (hb.mono h.lt)
/-- what stays whatever the reader does. -/
abbrev Kr (R : Nat) (w w' : World) : Prop := Kept [R] w w'
theorem Kr.low {R : Nat} {w w' : World} (h : Kr R w w') (hR : R < w.heap.size) : Below R w w' := h.below (Nat.le_of_lt hR) (fun k hk => by simp only [List.mem_singleton] at hk; subst hk; exact Nat.le_refl _)
theorem Kr.cell_of {R : Nat} {w w' : World} (h : Kr R w w') {p : Addr} {v : Value} (hp : w.cell? p = some v) (hn : p.block ≠ R) : w'.cell? p = some v := (Kept.cell h (World.block_lt_of_cell? w p hp) (by simpa using hn)).trans hp
theorem Kr.of {R : Nat} {w w' : World} (h : Below w.heap.size w w') : Kr R w w' := Kept.of [R] h
theorem Kr.tr {R : Nat} {a b c : World} (h : Kr R a b) (h' : Kr R b c) : Kr R a c := Kept.trans h h' (Sub.refl _ _)
/-- one token less. -/
theorem Rdr.adv {R e : Nat} {w : World} {s : PS} {A : Option Addr} {c : Nat} (h : Rdr R e w s) (h1 : Own w R 89 (rdL A c e s)) (h2 : s.rest.length ≤ c) (h3 : TkR w R A s.rest) (h0 : s.rest ≠ []) {v : Value}
    (hv : v = .slice (if c = 1 then A else A.map (·.add (1 * 3))) (s.rest.length - 1) (c - 1)) : Rdr R e (w.setCell ⟨R, 0, none⟩ v) (Go.Proofs.YtolnikpihedmbaaGreatDoor.adv s) := by
  have hb : Below R w (w.setCell ⟨R, 0, none⟩ v) := (Below.refl _ _).setCell (p := ⟨R, 0, none⟩) (Nat.le_refl _) v
  refine ⟨?_, h.env.low hb, h.tok.sub (fun x hx => List.mem_of_mem_tail hx) (by simp [Go.Proofs.YtolnikpihedmbaaGreatDoor.adv])⟩
  obtain ⟨y, l, hy⟩ := List.exists_cons_of_ne_nil h0
  obtain ⟨b, o, e1, _⟩ := h3 (by rw [hy]; simp)
  subst e1
  rw [hy] at h2 h3 hv
  simp only [List.length_cons] at h2 hv
  have hA : (if c = 1 then some (⟨b, o, none⟩ : Addr) else (some (⟨b, o, none⟩ : Addr)).map (·.add (1 * 3))) = if c = 1 then some ⟨b, o, none⟩ else some ⟨b, o + 3, none⟩ := by
    split
    · rfl
    · simp [Addr.add]
  have hrest : (Go.Proofs.YtolnikpihedmbaaGreatDoor.adv s).rest = l := by simp [Go.Proofs.YtolnikpihedmbaaGreatDoor.adv, hy]
  refine ⟨if c = 1 then some ⟨b, o, none⟩ else some ⟨b, o + 3, none⟩, c - 1, ?_, by rw [hrest]; omega, by rw [hrest]; exact (h3.tail c h2).low hb⟩
  have h4 := h1.set 0 v
  simp only [rdL, List.set_cons_zero] at h4
  rw [hv, hA] at h4
  rw [hv, hA]
  simp only [Go.Proofs.YtolnikpihedmbaaGreatDoor.adv, hy, List.tail_cons, rdL] at h4 ⊢
  simpa using h4
theorem set3_own {R e f a : Nat} {w : World} {s : PS} {A : Option Addr} {c : Nat} (h1 : Own w R 89 (rdL A c e s)) :
    Own (((w.setCell ⟨R, 2, none⟩ (.int .i64 (f : Int))).setCell ⟨R, 3, none⟩ (.int .i64 (a : Int))).setCell ⟨R, 0, none⟩ (.slice none 0 0)) R 89 [.slice none 0 0, .int .i64 (e : Int), .int .i64 (f : Int), .int .i64 (a : Int)] := by
  have h := ((h1.set 2 (.int .i64 (f : Int))).set 3 (.int .i64 (a : Int))).set 0 (.slice none 0 0)
  simpa [rdL] using h
set_option maxRecDepth 100000 in
set_option maxHeartbeats 400000 in
theorem refuseAt_any (R e f a : Nat) (s : PS) (w : World) (h : Rdr R e w s) :
    Calls Tryz.prog 49 #[.pointer (some ⟨R, 0, none⟩), .int .i64 (f : Int), .int .i64 (a : Int)] w fun r w' => r = .returned (.tuple #[]) ∧ Rdr R e w' (rfAt s f a) ∧ Kr R w w' := by
  have H := Lib.hid h
  obtain ⟨A, c, h1, h2, h3⟩ := h.own
  have H1 := Lib.hid h1
  have d0 := h1.cell 0
  have d2 := h1.cell 2
  have d3 := h1.cell 3
  have f0 := h1.frozen 0
  have f2 := h1.frozen 2
  have f3 := h1.frozen 3
  have hR := h1.lt
  simp only [rdL, List.getElem?_cons_zero, List.getElem?_cons_succ] at d0 d2 d3
  have hnil : (rfAt s f a).rest = [] := rfl
  by_cases h0 : s.flt = 0
  · have e0 : (s.flt : Int) = 0 := by omega
    have hb : Below R w (((w.setCell ⟨R, 2, none⟩ (.int .i64 (f : Int))).setCell ⟨R, 3, none⟩ (.int .i64 (a : Int))).setCell ⟨R, 0, none⟩ (.slice none 0 0)) := (((Below.refl _ _).setCell (p := ⟨R, 2, none⟩) (Nat.le_refl _) _).setCell (p := ⟨R, 3, none⟩) (Nat.le_refl _) _).setCell (p := ⟨R, 0, none⟩) (Nat.le_refl _) _
    have HR : Hid (Rdr R e (((w.setCell ⟨R, 2, none⟩ (.int .i64 (f : Int))).setCell ⟨R, 3, none⟩ (.int .i64 (a : Int))).setCell ⟨R, 0, none⟩ (.slice none 0 0)) (rfAt s f a)) := by
      refine ⟨⟨none, 0, ?_, Nat.zero_le _, TkR.nil _ _ _⟩, h.env.low hb, ⟨(fun x hx => by cases hx), by simp [hnil], (fun x hx => by cases hx)⟩⟩
      have h5 := set3_own (f := f) (a := a) h1
      simpa [rfAt, h0, rdL] using h5
    have HK : Hid (Kr R w (((w.setCell ⟨R, 2, none⟩ (.int .i64 (f : Int))).setCell ⟨R, 3, none⟩ (.int .i64 (a : Int))).setCell ⟨R, 0, none⟩ (.slice none 0 0))) := (((Kept.refl [R] w).setCell (p := ⟨R, 2, none⟩) (.inl (by simp)) _).setCell (p := ⟨R, 3, none⟩) (.inl (by simp)) _).setCell (p := ⟨R, 0, none⟩) (.inl (by simp)) _
    rw [e0] at d2
    clear h h1 h2 h3 hb hnil e0 h0
    go_enter Tryz.func49, Tryz.ntmps49
    go_wp2
    go_end0
    exact ⟨rfl, HR.out, HK.out⟩
  · have e0 : ¬ ((s.flt : Int) = 0) := by omega
    have hb : Below R w (w.setCell ⟨R, 0, none⟩ (.slice none 0 0)) := (Below.refl _ _).setCell (p := ⟨R, 0, none⟩) (Nat.le_refl _) _
    have HR : Hid (Rdr R e (w.setCell ⟨R, 0, none⟩ (.slice none 0 0)) (rfAt s f a)) := by
      refine ⟨⟨none, 0, ?_, Nat.zero_le _, TkR.nil _ _ _⟩, h.env.low hb, ⟨(fun x hx => by cases hx), by simp [hnil], (fun x hx => by cases hx)⟩⟩
      have h5 := h1.set 0 (.slice none 0 0)
      simpa [rfAt, h0, rdL] using h5
    have HK : Hid (Kr R w (w.setCell ⟨R, 0, none⟩ (.slice none 0 0))) := (Kept.refl [R] w).setCell (p := ⟨R, 0, none⟩) (.inl (by simp)) _
    generalize (s.flt : Int) = z at *
    clear h h1 h2 h3 hb hnil h0
    go_enter Tryz.func49, Tryz.ntmps49
    go_wp2
    go_end0
    exact ⟨rfl, HR.out, HK.out⟩
set_option maxRecDepth 100000 in
set_option maxHeartbeats 400000 in
theorem next_any (R e : Nat) (s : PS) (w : World) (h : Rdr R e w s) :
    Calls Tryz.prog 50 #[.pointer (some ⟨R, 0, none⟩)] w fun r w' => r = .returned (tkV (nx e s)) ∧ Below w.heap.size w w' := by
  obtain ⟨A, c, h1, h2, h3⟩ := h.own
  have d0 := h1.cell 0
  have d1 := h1.cell 1
  have hR := h1.lt
  simp only [rdL, List.getElem?_cons_zero, List.getElem?_cons_succ] at d0 d1
  unfold tkV nx
  cases hs : s.rest with
  | nil =>
    rw [hs] at d0
    simp only [List.length_nil] at d0
    clear h h1 h2 h3
    simp only [List.headD_nil]
    have hz : bts [] = noText := rfl
    rw [hz]
    go_enter Tryz.func50, Tryz.ntmps50
    go_wp2
    refine bodyPost_ret (results_cell_row (P := Tryz.prog) rfl _ _ w.heap.size 113 _ (0, 0) _ rfl (heap_alloc_new w _) Tryz.underlying113 rfl infoTok) rfl ?_
    exact ⟨rfl, (((Below.refl _ _).alloc (Nat.le_refl _) _))⟩
  | cons x l =>
    rw [hs] at d0 h3
    simp only [List.length_cons] at d0
    obtain ⟨b, o, rfl, hb, hc⟩ := h3 (by simp)
    obtain ⟨c0, c1, c2⟩ := hc 0 x rfl
    simp only [Nat.zero_mul, Nat.add_zero] at c0 c1 c2
    have hbw : b < w.heap.size := Nat.lt_trans hb hR
    have hl0 : ¬ ((l.length : Int) + 1 = 0) := by omega
    clear h h1 h2 h3 hc hb
    simp only [List.headD_cons]
    go_enter Tryz.func50, Tryz.ntmps50
    go_wp2
    refine bodyPost_ret (results_cell_row (P := Tryz.prog) rfl _ _ w.heap.size 113 _ (0, 0) _ rfl (heap_alloc_new w _) Tryz.underlying113 rfl infoTok) rfl ?_
    exact ⟨rfl, (((Below.refl _ _).alloc (Nat.le_refl _) _))⟩
end Go.Proofs.YtolnikpihedmbaaGreatDoor

set_option linter.unusedVariables false
set_option linter.unusedSimpArgs false
namespace Go.Proofs.YtolnikpihedmbaaGreatDoor
open Go.RowKit Go.Deep Go.Shelf

theorem field_kind (x : Tk) (w : World) : (Instr.field 113 (tkV x) 0).run Tryz.prog w = .ok (.int .i64 (x.1 : Int)) w := by kernel_rfl
theorem field_text (x : Tk) (w : World) : (Instr.field 113 (tkV x) 1).run Tryz.prog w = .ok (.string (bts x.2.1)) w := by kernel_rfl
theorem field_at (x : Tk) (w : World) : (Instr.field 113 (tkV x) 2).run Tryz.prog w = .ok (.int .i64 (x.2.2 : Int)) w := by kernel_rfl
set_option maxRecDepth 100000 in
set_option maxHeartbeats 400000 in
theorem refuse_any (R e f : Nat) (s : PS) (w : World) (h : Rdr R e w s) :
    Calls Tryz.prog 26 #[.pointer (some ⟨R, 0, none⟩), .int .i64 (f : Int)] w fun r w' => r = .returned (.tuple #[]) ∧ Rdr R e w' (rf e s f) ∧ Kr R w w' := by
  have H := Lib.hid h
  have HN := Lib.hid (next_any R e s w h)
  clear h
  unfold rf
  generalize nx e s = x at *
  have hf := field_at x
  go_enter Tryz.func26, Tryz.ntmps26
  go_wp2_with fail
  refine HN.out.mono ?_
  rintro r w1 ⟨rfl, b1⟩
  have H1 := Lib.hid (H.out.below b1)
  have B1 := Lib.hid (Kr.of (R := R) b1)
  clear b1 HN
  go_wp2_with fail
  refine (refuseAt_any R e f x.2.2 s w1 H1.out).mono ?_
  rintro r w2 ⟨rfl, h2, k2⟩
  have H2 := Lib.hid h2
  have K2 := Lib.hid (B1.out.tr k2)
  clear h2 k2
  go_wp2
  go_end0
  exact ⟨rfl, H2.out, K2.out⟩
theorem list_beq {α : Type} [BEq α] [LawfulBEq α] [DecidableEq α] (a b : List α) : (a == b) = decide (a = b) := by rw [Bool.eq_iff_iff]; simp
theorem bts_dec (a b : List UInt8) : decide (bts a = bts b) = decide (a = b) := by
  by_cases h : a = b
  · subst h; simp
  · rw [decide_eq_false h, decide_eq_false (fun e => h (by have := congrArg (fun x => x.data.toList) e; simpa [bts] using this))]
set_option maxRecDepth 100000 in
set_option maxHeartbeats 400000 in
theorem is_any (R e : Nat) (t : List UInt8) (s : PS) (w : World) (h : Rdr R e w s) :
    Calls Tryz.prog 27 #[.pointer (some ⟨R, 0, none⟩), .string (bts t)] w fun r w' => r = .returned (.bool (isT e s t)) ∧ Below w.heap.size w w' := by
  have HN := Lib.hid (next_any R e s w h)
  clear h
  have HD : Hid (decide (bts (nx e s).2.1 = bts t) = isT e s t) := bts_dec _ _
  generalize isT e s t = b at *
  generalize nx e s = x at *
  have hf := field_text x
  go_enter Tryz.func27, Tryz.ntmps27
  go_wp2_with fail
  refine HN.out.mono ?_
  rintro r w1 ⟨rfl, b1⟩
  have B1 := Lib.hid b1
  clear b1 HN
  go_wp2
  go_ret
  exact ⟨by rw [← HD.out, bts_dec]; simp [list_beq], B1.out⟩
set_option maxRecDepth 100000 in
set_option maxHeartbeats 400000 in
theorem room_any (R e n m : Nat) (s : PS) (w : World) (h : Rdr R e w s) :
    Calls Tryz.prog 28 #[.pointer (some ⟨R, 0, none⟩), .int .i64 (n : Int), .int .i64 (m : Int)] w fun r w' => r = .returned (.tuple #[]) ∧ Rdr R e w' (room e s n m) ∧ Kr R w w' := by
  have H := Lib.hid h
  clear h
  unfold room
  by_cases h0 : n = m
  · have h1 : (n : Int) = (m : Int) := by omega
    rw [if_pos h0]
    clear h0
    generalize (n : Int) = a at *
    generalize (m : Int) = b at *
    go_enter Tryz.func28, Tryz.ntmps28
    go_wp2_with fail
    refine (refuse_any R e 3 s w H.out).mono ?_
    rintro r w2 ⟨rfl, h2, k2⟩
    have H2 := Lib.hid h2
    have K2 := Lib.hid k2
    clear h2 k2
    go_wp2
    go_end0
    exact ⟨rfl, H2.out, K2.out⟩
  · have h1 : ¬ (n : Int) = (m : Int) := by omega
    rw [if_neg h0]
    clear h0
    generalize (n : Int) = a at *
    generalize (m : Int) = b at *
    go_enter Tryz.func28, Tryz.ntmps28
    go_wp2
    go_end0
    exact ⟨rfl, H.out, Kept.refl _ _⟩
set_option maxRecDepth 100000 in
set_option maxHeartbeats 400000 in
theorem take_any (R e : Nat) (t : List UInt8) (ht : t ≠ []) (s : PS) (w : World) (h : Rdr R e w s) :
    Calls Tryz.prog 68 #[.pointer (some ⟨R, 0, none⟩), .string (bts t)] w fun r w' => r = .returned (.bool (isT e s t)) ∧ Rdr R e w' (takeT e s t) ∧ Kr R w w' := by
  have H := Lib.hid h
  have HN := Lib.hid (is_any R e t s w h)
  clear h
  unfold takeT
  cases hb : isT e s t with
  | false =>
    rw [hb] at HN
    rw [if_neg (by decide)]
    clear hb
    go_enter Tryz.func68, Tryz.ntmps68
    go_wp2_with fail
    refine HN.out.mono ?_
    rintro r w1 ⟨rfl, b1⟩
    have B1 := Lib.hid b1
    clear b1 HN
    go_wp2
    go_ret
    exact ⟨rfl, H.out.below B1.out, Kr.of B1.out⟩
  | true =>
    rw [hb] at HN
    rw [if_pos rfl]
    have h0 : s.rest ≠ [] := by
      intro h0
      rw [isT_nil h0 ht] at hb
      cases hb
    have hn : (1 : Int) ≤ (s.rest.length : Int) := by have := List.length_pos_iff.2 h0; omega
    clear hb
    have HH0 := Lib.hid h0
    clear h0
    go_enter Tryz.func68, Tryz.ntmps68
    go_wp2_with fail
    refine HN.out.mono ?_
    rintro r w1 ⟨rfl, b1⟩
    have H1 := H.out.below b1
    have B1 := Lib.hid (Kr.of (R := R) b1)
    obtain ⟨A, c, h1, h2, h3⟩ := H1.own
    obtain ⟨b, o, rfl, _⟩ := h3 (List.length_pos_iff.2 HH0.out)
    have HR := Lib.hid (fun v hv => H1.adv h1 h2 h3 HH0.out (v := v) hv)
    have d0 := h1.cell 0
    have f0 := h1.frozen 0
    have hR := h1.lt
    simp only [rdL, List.getElem?_cons_zero, List.getElem?_cons_succ] at d0
    clear b1 HN H H1 h1 h2 h3
    by_cases hc1 : c = 1 <;>
    · go_wp2
      go_ret
      exact ⟨rfl, HR.out _ (by simp [hc1, Addr.add]), B1.out.tr ((Kept.refl [R] w1).setCell (p := ⟨R, 0, none⟩) (.inl (by simp)) _)⟩
set_option maxRecDepth 100000 in
set_option maxHeartbeats 400000 in
theorem need_any (R e : Nat) (t : List UInt8) (ht : t ≠ []) (s : PS) (w : World) (h : Rdr R e w s) :
    Calls Tryz.prog 47 #[.pointer (some ⟨R, 0, none⟩), .string (bts t)] w fun r w' => r = .returned (.tuple #[]) ∧ Rdr R e w' (needT e s t) ∧ Kr R w w' := by
  have HN := Lib.hid (take_any R e t ht s w h)
  clear h
  unfold needT
  unfold takeT at HN
  cases hb : isT e s t with
  | true =>
    rw [hb, if_pos rfl] at HN
    rw [if_pos rfl]
    clear hb
    go_enter Tryz.func47, Tryz.ntmps47
    go_wp2_with fail
    refine HN.out.mono ?_
    rintro r w1 ⟨rfl, h1, k1⟩
    have H1 := Lib.hid h1
    have K1 := Lib.hid k1
    clear h1 k1 HN
    go_wp2
    go_end0
    exact ⟨rfl, H1.out, K1.out⟩
  | false =>
    rw [hb, if_neg (by decide)] at HN
    rw [if_neg (by decide)]
    clear hb
    go_enter Tryz.func47, Tryz.ntmps47
    go_wp2_with fail
    refine HN.out.mono ?_
    rintro r w1 ⟨rfl, h1, k1⟩
    have H1 := Lib.hid h1
    have K1 := Lib.hid k1
    clear h1 k1 HN
    go_wp2_with fail
    refine (refuse_any R e 2 s w1 H1.out).mono ?_
    rintro r w2 ⟨rfl, h2, k2⟩
    have H2 := Lib.hid h2
    have K2 := Lib.hid (K1.out.tr k2)
    clear h2 k2
    go_wp2
    go_end0
    exact ⟨rfl, H2.out, K2.out⟩
set_option maxRecDepth 100000 in
set_option maxHeartbeats 400000 in
theorem needKind_any (R e k : Nat) (hk : k ≠ 0) (s : PS) (w : World) (h : Rdr R e w s) :
    Calls Tryz.prog 51 #[.pointer (some ⟨R, 0, none⟩), .int .i64 (k : Int)] w fun r w' => r = .returned (.string (bts (needK e s k).1)) ∧ Rdr R e w' (needK e s k).2 ∧ Kr R w w' := by
  have H := Lib.hid h
  have HN := Lib.hid (next_any R e s w h)
  clear h
  unfold needK
  by_cases hq : (nx e s).1 = k
  · rw [if_pos hq]
    have h0 : s.rest ≠ [] := by
      intro h0
      unfold nx at hq
      rw [h0] at hq
      exact hk hq.symm
    have hn : (1 : Int) ≤ (s.rest.length : Int) := by have := List.length_pos_iff.2 h0; omega
    have HH0 := Lib.hid h0
    clear h0
    generalize nx e s = x at *
    obtain ⟨q, t, p⟩ := x
    simp only at hq
    subst hq
    simp only
    go_enter Tryz.func51, Tryz.ntmps51
    go_wp2_with fail
    refine HN.out.mono ?_
    rintro r w1 ⟨rfl, b1⟩
    have B1 := Lib.hid (Kr.of (R := R) b1)
    have H1 := H.out.below b1
    obtain ⟨A, c, h1, h2, h3⟩ := H1.own
    obtain ⟨b, o, rfl, _⟩ := h3 (List.length_pos_iff.2 HH0.out)
    have HR := Lib.hid (fun v hv => H1.adv h1 h2 h3 HH0.out (v := v) hv)
    have d0 := h1.cell 0
    have f0 := h1.frozen 0
    have hR := h1.lt
    have hne : ¬ (R = w1.heap.size) := by omega
    simp only [rdL, List.getElem?_cons_zero, List.getElem?_cons_succ] at d0
    clear b1 HN H H1 h1 h2 h3
    by_cases hc1 : c = 1 <;>
    · go_wp2
      go_ret
      exact ⟨rfl, (HR.out _ (by simp [hc1, Addr.add])).below ((Below.refl _ _).alloc (Nat.le_refl _) _), (B1.out.setCell (p := ⟨R, 0, none⟩) (.inl (by simp)) _).alloc _⟩
  · rw [if_neg hq]
    have hqi : ¬ (((nx e s).1 : Int) = (k : Int)) := by omega
    have hz : bts [] = noText := rfl
    simp only
    rw [hz]
    clear hq
    generalize nx e s = x at *
    go_enter Tryz.func51, Tryz.ntmps51
    go_wp2_with fail
    refine HN.out.mono ?_
    rintro r w1 ⟨rfl, b1⟩
    have B1 := Lib.hid (Kr.of (R := R) b1)
    have H1 := Lib.hid ((H.out.below b1).below ((Below.refl w1.heap.size w1).alloc (o := .cells #[.int .i64 (x.1 : Int), .string (bts x.2.1), .int .i64 (x.2.2 : Int)] 113) (Nat.le_refl _)))
    clear b1 HN H
    go_wp2_with fail
    refine (refuse_any R e 2 s _ H1.out).mono ?_
    rintro r w2 ⟨rfl, h2, k2⟩
    have H2 := Lib.hid h2
    have K2 := Lib.hid (Kr.tr (B1.out.alloc _) k2)
    clear h2 k2
    go_wp2
    go_ret
    exact ⟨rfl, H2.out, K2.out⟩
end Go.Proofs.YtolnikpihedmbaaGreatDoor

set_option linter.unusedVariables false
set_option linter.unusedSimpArgs false
namespace Go.Proofs.YtolnikpihedmbaaGreatDoor
open Go.RowKit Go.Deep Go.Shelf

/-- what reading a list leaves. -/
def GotL {α : Type} (R e : Nat) (J : Nat → α → World → Prop) (q : α × PS) (r : Ending) (w' : World) : Prop := r = .returned (.tuple #[]) ∧ Rdr R e w' q.2 ∧ ∃ n, n ≤ 7 ∧ J n q.1 w'
set_option maxRecDepth 100000 in
set_option maxHeartbeats 2000000 in
theorem list_any {α : Type} (R e : Nat) (F : FuncId) (ca : Array Value) (f : α → PS → α × PS) (J : Nat → α → World → Prop) (a : α) (s : PS) (w : World) (h : Rdr R e w s) (eg : ∀ args w, (callFunc F args).run Tryz.prog w = .ok (.enter F args) w)
    (hf : ∀ n a s W, n ≤ 6 → Rdr R e W s → J n a W → Calls Tryz.prog F ca W fun r W' => r = .returned (.tuple #[]) ∧ Rdr R e W' (f a s).2 ∧ J (n + 1) (f a s).1 W')
    (hJ : ∀ n a W W', J n a W → Kr R W W' → J n a W') (hst : ∀ a s, Stp e s (f a s).2) (h0 : J 0 a w) :
    Calls Tryz.prog 52 #[.pointer (some ⟨R, 0, none⟩), .func (.func F) #[] ca] w (GotL R e J (listM e f a s)) := by
  have HF := Lib.hid hf
  have HJ := Lib.hid hJ
  have HS := Lib.hid hst
  have H := Lib.hid h
  have HN := Lib.hid (need_any R e cLp (by decide) s w h)
  have hlp : bts cLp = ⟨#[40]⟩ := rfl
  have hrp : bts cRp = ⟨#[41]⟩ := rfl
  have hco : bts cCo = ⟨#[44]⟩ := rfl
  have HT := Lib.hid (fun s w (h : Rdr R e w s) => take_any R e cRp (by decide) s w h)
  have HC := Lib.hid (fun s w (h : Rdr R e w s) => take_any R e cCo (by decide) s w h)
  have HRm := Lib.hid (fun n s w (h : Rdr R e w s) => room_any R e n 6 s w h)
  have H0 := Lib.hid h0
  rw [hlp] at HN
  rw [hrp] at HT
  rw [hco] at HC
  clear hf hJ hst h h0 hlp hrp hco
  have hL : listM e f a s = if isT e (needT e s cLp) cRp = true then (a, adv (needT e s cLp)) else listN e f 6 a (needT e s cLp) := rfl
  cases hb : isT e (needT e s cLp) cRp with
  | true =>
    rw [hb, if_pos rfl] at hL
    rw [hL]
    generalize needT e s cLp = s1 at *
    have HT1 := Lib.hid (HT.out s1)
    unfold takeT at HT1
    simp only [hb, if_true] at HT1
    clear hb hL
    go_enter Tryz.func52, Tryz.ntmps52
    go_step3
    go_wp2_with fail
    refine HN.out.mono ?_
    rintro r w1 ⟨rfl, h1, k1⟩
    have H1 := Lib.hid h1
    have J1 := Lib.hid (HJ.out _ _ _ _ H0.out k1)
    clear h1 k1 HN H0 H
    go_wp2_with fail
    refine (HT1.out w1 H1.out).mono ?_
    rintro r w2 ⟨rfl, h2, k2⟩
    have J2 := Lib.hid (HJ.out _ _ _ _ J1.out k2)
    have H2 := Lib.hid h2
    clear h2 k2
    go_wp2
    try rw [Exit.noGoto_ret]
    go_end0
    exact ⟨rfl, H2.out, 0, by omega, J2.out⟩
  | false =>
    rw [hb, if_neg (by decide)] at hL
    rw [hL]
    generalize needT e s cLp = s1 at *
    have HT1 := Lib.hid (HT.out s1)
    unfold takeT at HT1
    simp only [hb, if_false, Bool.false_eq_true] at HT1
    clear hb hL
    generalize hfin : listN e f 6 a s1 = fin
    have HFin : Hid (listN e f (6 - 0) a s1 = fin) := hfin
    clear hfin
    go_enter Tryz.func52, Tryz.ntmps52
    go_step3
    go_wp2_with fail
    refine HN.out.mono ?_
    rintro r w1 ⟨rfl, h1, k1⟩
    have H1 := Lib.hid h1
    have J1 := Lib.hid (HJ.out _ _ _ _ H0.out k1)
    clear h1 k1 HN H0 H
    go_wp2_with fail
    refine (HT1.out w1 H1.out).mono ?_
    rintro r w2 ⟨rfl, h2, k2⟩
    have J2 := Lib.hid (HJ.out _ _ _ _ J1.out k2)
    have H2 := Lib.hid h2
    clear h2 k2 H1 J1
    go_wp2_with fail
    go_step3
    go_wp2_with fail
    go_loopw [4] (fun i wr => ∃ (n : Nat) (a : α) (sp : PS), n ≤ 6 ∧ i = .int .i64 (n : Int) ∧ Hid (Rdr R e wr sp) ∧ Hid (J n a wr) ∧ Hid (listN e f (6 - n) a sp = fin)) (fun i _ => 7 - (intOf i).toNat)
    case atStart => exact ⟨0, a, s1, by omega, rfl, H2, J2, HFin⟩
    case round =>
      clear H2 J2 HFin
      obtain ⟨n, a, sp, hn, rfl, HR, HJn, HFin⟩ := hrel
      go_wp2_with fail
      refine (HRm.out n sp wr HR.out).mono ?_
      rintro r w3 ⟨rfl, h3, k3⟩
      have HI := Lib.hid (HF.out n a (room e sp n 6) w3 hn h3 (HJ.out _ _ _ _ HJn.out k3))
      clear h3 k3 HR HJn
      go_wp2_with fail
      refine HI.out.mono ?_
      rintro r w4 ⟨rfl, h4, j4⟩
      have H4 := Lib.hid h4
      have J4 := Lib.hid j4
      clear h4 j4 HI
      have HTc := Lib.hid (HC.out _ w4 H4.out)
      unfold takeT at HTc
      by_cases hlt : n < 6
      · have e6 : room e sp n 6 = sp := by unfold room; rw [if_neg (by omega)]
        rw [e6] at H4 J4 HTc
        have hfin := HFin.out
        rw [show 6 - n = (6 - (n + 1)) + 1 by omega] at hfin
        unfold listN at hfin
        simp only at hfin
        clear HFin e6
        generalize f a sp = q at *
        obtain ⟨a2, s2⟩ := q
        simp only at H4 J4 HTc hfin
        cases hc : isT e s2 cCo with
        | true =>
          rw [hc, if_pos rfl] at HTc
          rw [hc, if_pos rfl] at hfin
          have HFin := Lib.hid hfin
          clear hfin hc
          go_wp2_with fail
          refine HTc.out.mono ?_
          rintro r w5 ⟨rfl, h5, k5⟩
          have H5 := Lib.hid h5
          have J5 := Lib.hid (HJ.out _ _ _ _ J4.out k5)
          clear h5 k5 HTc
          go_wp2_with fail
          go_roundw
          case rel => exact ⟨n + 1, a2, adv s2, by omega, by go_num, H5, J5, HFin⟩
          case measure => simp [intOf]; omega
        | false =>
          rw [hc, if_neg (by decide)] at HTc
          rw [hc, if_neg (by decide)] at hfin
          clear hc
          go_wp2_with fail
          refine HTc.out.mono ?_
          rintro r w5 ⟨rfl, h5, k5⟩
          have HTr := Lib.hid (HT.out _ w5 h5)
          have H5 := Lib.hid h5
          have J5 := Lib.hid (HJ.out _ _ _ _ J4.out k5)
          clear h5 k5 HTc
          unfold takeT at HTr
          cases hc : isT e s2 cRp with
          | true =>
            rw [hc, if_pos rfl] at HTr
            rw [hc, if_pos rfl] at hfin
            clear hc
            go_wp2_with fail
            refine HTr.out.mono ?_
            rintro r w6 ⟨rfl, h6, k6⟩
            have H6 := Lib.hid h6
            have J6 := Lib.hid (HJ.out _ _ _ _ J5.out k6)
            have HFin := Lib.hid hfin
            clear h6 k6 HTr hfin
            go_wp2
            go_end0
            rw [← HFin.out]
            exact ⟨rfl, H6.out, n + 1, by omega, J6.out⟩
          | false =>
            rw [hc, if_neg (by decide)] at HTr
            rw [hc, if_neg (by decide)] at hfin
            clear hc
            go_wp2_with fail
            refine HTr.out.mono ?_
            rintro r w6 ⟨rfl, h6, k6⟩
            have H6 := Lib.hid h6
            have J6 := Lib.hid (HJ.out _ _ _ _ J5.out k6)
            have HFin := Lib.hid hfin
            clear h6 k6 HTr hfin
            go_wp2_with fail
            refine (refuse_any R e 2 s2 w6 H6.out).mono ?_
            rintro r w7 ⟨rfl, h7, k7⟩
            have H7 := Lib.hid h7
            have J7 := Lib.hid (HJ.out _ _ _ _ J6.out k7)
            clear h7 k7
            go_wp2
            go_end0
            rw [← HFin.out]
            exact ⟨rfl, H7.out, n + 1, by omega, J7.out⟩
      · have hn6 : n = 6 := by omega
        subst hn6
        have e6 : room e sp 6 6 = rf e sp 3 := by unfold room; rw [if_pos rfl]
        rw [e6] at H4 J4 HTc
        have hfin := HFin.out
        have hnil : (f a (rf e sp 3)).2.rest = [] := by
          have := (HS.out a (rf e sp 3)).len
          exact List.eq_nil_of_length_eq_zero (Nat.le_zero.1 this)
        rw [show 6 - 6 = 0 by omega] at hfin
        unfold listN at hfin
        simp only at hfin
        have hc1 : isT e (f a (rf e sp 3)).2 cCo = false := isT_nil hnil (by decide)
        have hc2 : isT e (f a (rf e sp 3)).2 cRp = false := isT_nil hnil (by decide)
        clear HFin e6 hnil
        generalize f a (rf e sp 3) = q at *
        obtain ⟨a2, s2⟩ := q
        simp only at H4 J4 HTc hfin hc1 hc2
        rw [hc1, if_neg (by decide)] at HTc
        have HFin := Lib.hid hfin
        clear hfin hc1
        go_wp2_with fail
        refine HTc.out.mono ?_
        rintro r w5 ⟨rfl, h5, k5⟩
        have HTr := Lib.hid (HT.out _ w5 h5)
        have H5 := Lib.hid h5
        have J5 := Lib.hid (HJ.out _ _ _ _ J4.out k5)
        clear h5 k5 HTc
        unfold takeT at HTr
        rw [hc2, if_neg (by decide)] at HTr
        clear hc2
        go_wp2_with fail
        refine HTr.out.mono ?_
        rintro r w6 ⟨rfl, h6, k6⟩
        have H6 := Lib.hid h6
        have J6 := Lib.hid (HJ.out _ _ _ _ J5.out k6)
        clear h6 k6 HTr
        go_wp2_with fail
        refine (refuse_any R e 2 s2 w6 H6.out).mono ?_
        rintro r w7 ⟨rfl, h7, k7⟩
        have H7 := Lib.hid h7
        have J7 := Lib.hid (HJ.out _ _ _ _ J6.out k7)
        clear h7 k7
        go_wp2
        go_end0
        rw [← HFin.out]
        exact ⟨rfl, H7.out, 7, by omega, J7.out⟩
end Go.Proofs.YtolnikpihedmbaaGreatDoor
