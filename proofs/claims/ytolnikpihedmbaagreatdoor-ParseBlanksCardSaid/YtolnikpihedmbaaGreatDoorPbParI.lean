/- The reader's chains: signs of a group between what a function reads. Conditions: as ParE's. -/
import Derived.Test.YtolnikpihedmbaaGreatDoorPbJ
set_option linter.unusedVariables false
set_option linter.unusedSimpArgs false
namespace Go.Proofs.YtolnikpihedmbaaGreatDoor
open Go.RowKit Go.Deep Go.Shelf
theorem allocOld (w : World) (o : Obj) (i : Nat) (h : i < w.heap.size) : (w.alloc o).heap[i]? = w.heap[i]? := by
  show (w.heap.push o)[i]? = w.heap[i]?
  rw [Array.getElem?_push, if_neg (Nat.ne_of_lt h)]

/-- what reading an expression leaves. -/
def GotE (R e : Nat) (W : World) (q : TEx × PS) (r : Ending) (W' : World) : Prop :=
  ∃ A c, r = .returned (exV q.1 A c) ∧ Stab W' (fun k => W.heap.size ≤ k) (fun W => ExV W q.1 A) ∧ Rdr R e W' q.2 ∧ Kr R W W'
/-- a function's contract, wherever the reader has come to. -/
def PartOk (R e : Nat) (W0 : World) (F : FuncId) (ca : Array Value) (part : PS → TEx × PS) : Prop :=
  ∀ s W, Kr R W0 W → Rdr R e W s → Calls Tryz.prog F ca W (GotE R e W (part s))
abbrev exL (x : TEx) (A : Option Addr) (c : Nat) : List Value := [.int .i64 x.op, .string x.t.v, .int .i64 x.t.k, .int .i64 x.t.n, .string x.t.s, .slice A x.kids.length c]
theorem infoTexp : (Tryz.prog.info? 60).map (·.size) = some 6 := by kernel_rfl
theorem Stab.two {W : World} {P : Nat → Prop} {x y : TEx} {A A2 : Option Addr} {c c2 bS : Nat} {op : Int} {T : TypeId} (hP : P bS) (hO : Own W bS T (exL x A c ++ exL y A2 c2)) (hx : Stab W P (fun W => ExV W x A)) (hy : Stab W P (fun W => ExV W y A2)) :
    Stab W P (fun W => ExV W (.mk op zT [x, y]) (some ⟨bS, 0, none⟩)) := fun w' h1 h2 => by
  have hO' : Own w' bS T (exL x A c ++ exL y A2 c2) := (h2 bS hO.lt hP).trans hO
  have hx' := hx w' h1 h2
  have hy' := hy w' h1 h2
  have hc := hO'.cell
  refine ⟨⟨no_ok, no_ok⟩, by show [x, y].length ≤ _; simp, fun _ => ⟨bS, 0, rfl, hO'.lt, fun i z hz => ?_⟩⟩
  change [x, y][i]? = some z at hz
  rcases i with _ | _ | i
  · simp only [List.getElem?_cons_zero, Option.some.injEq] at hz
    subst hz
    exact ExC.shut (A := A) (c := c) (hc 0) (hc 1) (hc 2) (hc 3) (hc 4) (hc 5) hx'
  · simp only [List.getElem?_cons_succ, List.getElem?_cons_zero, Option.some.injEq] at hz
    subst hz
    exact ExC.shut (A := A2) (c := c2) (hc 6) (hc 7) (hc 8) (hc 9) (hc 10) (hc 11) hy'
  · simp at hz
theorem GotE.of {R e : Nat} {W W' : World} {q : TEx × PS} {A : Option Addr} {c : Nat} (h1 : Stab W' (fun k => W.heap.size ≤ k) (fun W => ExV W q.1 A)) (h2 : Rdr R e W' q.2) (h3 : Kr R W W') : GotE R e W q (.returned (exV q.1 A c)) W' := ⟨A, c, rfl, h1, h2, h3⟩
/-- what holds between two rounds. -/
structure ChI (R e b0 b1 : Nat) (w : World) (g : Nat) (part : PS → TEx × PS) (fin : TEx × PS) (sp : PS) (x : TEx) (A : Option Addr) (c : Nat) (W : World) : Prop where
  rdr : Rdr R e W (take1 e sp g)
  own : Own W b1 60 (exL x A c)
  res : Own W b0 60 [.int .i64 0, .string noText, .int .i64 0, .int .i64 0, .string noText, .slice none 0 0]
  stab : Stab W (fun k => w.heap.size ≤ k ∧ k ≠ b0 ∧ k ≠ b1) (fun W => ExV W x A)
  kr : Kr R w W
  fin : ∃ n, sp.rest.length ≤ n ∧ chainN e g part n x sp = fin
  lo : w.heap.size ≤ b0 ∧ w.heap.size ≤ b1 ∧ b0 ≠ b1 ∧ R < w.heap.size
/-- the world behind a sign and what was read behind it. -/
abbrev chW (w3 : World) (b1 : Nat) (op : Int) (x : TEx) (A : Option Addr) (c : Nat) (y : TEx) (A2 : Option Addr) (c2 : Nat) : World :=
  ((w3.alloc (.cells #[.int .i64 y.op, .string y.t.v, .int .i64 y.t.k, .int .i64 y.t.n, .string y.t.s, .slice A2 y.kids.length c2] 60)).alloc (.cells #[.int .i64 x.op, .string x.t.v, .int .i64 x.t.k, .int .i64 x.t.n, .string x.t.s, .slice A x.kids.length c, .int .i64 y.op, .string y.t.v, .int .i64 y.t.k, .int .i64 y.t.n, .string y.t.s, .slice A2 y.kids.length c2] 60)).setRow b1
    #[.int .i64 op, .string noText, .int .i64 0, .int .i64 0, .string noText, .slice (some ⟨w3.heap.size + 1, 0, none⟩) 2 2]
theorem ChI.step {R e b0 b1 : Nat} {w wr w3 : World} {g : Nat} {part : PS → TEx × PS} {fin : TEx × PS} {sp sp2 : PS} {x y : TEx} {A A2 : Option Addr} {c c2 : Nat} {op : Int} (hI : ChI R e b0 b1 w g part fin sp x A c wr)
    (s3 : Stab w3 (fun k => wr.heap.size ≤ k) (fun W => ExV W y A2)) (r3 : Rdr R e w3 sp2) (k3 : Kr R wr w3) (hf : ∃ n, sp2.rest.length ≤ n ∧ chainN e g part n (.mk op zT [x, y]) sp2 = fin) :
    Rdr R e (chW w3 b1 op x A c y A2 c2) sp2 ∧ ∀ w4, Rdr R e w4 (take1 e sp2 g) → Kr R (chW w3 b1 op x A c y A2 c2) w4 → ChI R e b0 b1 w g part fin sp2 (.mk op zT [x, y]) (some ⟨w3.heap.size + 1, 0, none⟩) 2 w4 := by
  have hl := hI.lo
  have hw := hI.kr.size
  have hw3 := k3.size
  have q1 := hI.own.lt
  have q0 := hI.res.lt
  have hR3 := r3.lt
  have hb2 : Below w3.heap.size w3 ((w3.alloc (.cells #[.int .i64 y.op, .string y.t.v, .int .i64 y.t.k, .int .i64 y.t.n, .string y.t.s, .slice A2 y.kids.length c2] 60)).alloc (.cells #[.int .i64 x.op, .string x.t.v, .int .i64 x.t.k, .int .i64 x.t.n, .string x.t.s, .slice A x.kids.length c, .int .i64 y.op, .string y.t.v, .int .i64 y.t.k, .int .i64 y.t.n, .string y.t.s, .slice A2 y.kids.length c2] 60)) :=
    ((Below.refl _ _).alloc (Nat.le_refl _) _).alloc (by simp) _
  have hoS : Own ((w3.alloc (.cells #[.int .i64 y.op, .string y.t.v, .int .i64 y.t.k, .int .i64 y.t.n, .string y.t.s, .slice A2 y.kids.length c2] 60)).alloc (.cells #[.int .i64 x.op, .string x.t.v, .int .i64 x.t.k, .int .i64 x.t.n, .string x.t.s, .slice A x.kids.length c, .int .i64 y.op, .string y.t.v, .int .i64 y.t.k, .int .i64 y.t.n, .string y.t.s, .slice A2 y.kids.length c2] 60)) (w3.heap.size + 1) 60 (exL x A c ++ exL y A2 c2) := by
    have h := heap_alloc_new (w3.alloc (.cells #[.int .i64 y.op, .string y.t.v, .int .i64 y.t.k, .int .i64 y.t.n, .string y.t.s, .slice A2 y.kids.length c2] 60)) (.cells #[.int .i64 x.op, .string x.t.v, .int .i64 x.t.k, .int .i64 x.t.n, .string x.t.s, .slice A x.kids.length c, .int .i64 y.op, .string y.t.v, .int .i64 y.t.k, .int .i64 y.t.n, .string y.t.s, .slice A2 y.kids.length c2] 60)
    rw [World.size_alloc] at h
    exact h
  have hx : Stab w3 (fun k => w.heap.size ≤ k ∧ k ≠ b0 ∧ k ≠ b1) (fun W => ExV W x A) := hI.stab.keep hw3 (fun k hk hp => k3.block k hk (by simp; omega)) (fun k hk hp => hp)
  have hy : Stab w3 (fun k => w.heap.size ≤ k ∧ k ≠ b0 ∧ k ≠ b1) (fun W => ExV W y A2) := s3.more (fun k hk hp => by omega)
  have hxy := Stab.two (op := op) (by show w.heap.size ≤ _ ∧ _ ∧ _; omega) hoS (hx.below hb2) (hy.below hb2)
  have ho1 := (hb2.block b1 (by omega)).trans (k3.own hI.own (by simp; omega))
  have ho0 := (hb2.block b0 (by omega)).trans (k3.own hI.res (by simp; omega))
  clear hoS
  unfold chW
  generalize ((w3.alloc (.cells #[.int .i64 y.op, .string y.t.v, .int .i64 y.t.k, .int .i64 y.t.n, .string y.t.s, .slice A2 y.kids.length c2] 60)).alloc (.cells #[.int .i64 x.op, .string x.t.v, .int .i64 x.t.k, .int .i64 x.t.n, .string x.t.s, .slice A x.kids.length c, .int .i64 y.op, .string y.t.v, .int .i64 y.t.k, .int .i64 y.t.n, .string y.t.s, .slice A2 y.kids.length c2] 60)) = WA at *
  have hsz := hb2.size
  refine ⟨(r3.below hb2).setRow (by have := hI.rdr.lt; omega) _, fun w4 h4 k4 => ?_⟩
  have hs4 : WA.heap.size ≤ w4.heap.size := by simpa using k4.size
  refine ⟨h4, k4.own (Own.setRow (w := WA) (old := exL x A c) ho1 (exL (.mk op zT [x, y]) (some ⟨w3.heap.size + 1, 0, none⟩) 2)) (by simp; omega), k4.own ((setRow_other WA b1 b0 _ (by omega)).trans ho0) (by simp; omega), ?_, ?_, hf, hl⟩
  · refine hxy.keep hs4 (fun k hk hp => (k4.block k (by simp; omega) (by simp; omega)).trans (setRow_other WA b1 k _ (by omega))) (fun k hk hp => hp)
  · exact Kr.tr (Kept.setRow (Kept.then (Kr.tr hI.kr k3) hb2) (.inr hl.2.1) _) k4
theorem chainN_stop {e g n : Nat} {part : PS → TEx × PS} {x : TEx} {sp : PS} (h : got1 e sp g = 0) : chainN e g part n x sp = (x, sp) := by
  cases n with
  | zero => rfl
  | succ n => unfold chainN; rw [if_pos h]
/-- how much a reader has left. -/
def restN (R : Nat) (w : World) : Nat := match w.cell? ⟨R, 0, none⟩ with | some (.slice _ n _) => n | _ => 0
theorem Rdr.restN {R e : Nat} {w : World} {s : PS} (h : Rdr R e w s) : Go.Proofs.YtolnikpihedmbaaGreatDoor.restN R w = s.rest.length := by
  obtain ⟨A, c, h1, _⟩ := h.own
  have := h1.cell 0
  simp only [rdL, List.getElem?_cons_zero] at this
  unfold Go.Proofs.YtolnikpihedmbaaGreatDoor.restN
  rw [this]
theorem take1_len {e g : Nat} {s : PS} : 2 * (take1 e s g).rest.length + (if ((got1 e s g : Nat) : Int) = 0 then 0 else 1) ≤ 2 * s.rest.length := by
  by_cases h : got1 e s g = 0
  · rw [if_pos (by omega)]
    unfold take1
    unfold got1 at h
    rw [if_pos h]
    omega
  · rw [if_neg (by omega)]
    have h1 := nx_lt1 h
    unfold take1
    unfold got1 at h
    rw [if_neg h]
    omega
set_option maxRecDepth 100000 in
set_option maxHeartbeats 2000000 in
theorem chain_any (R e g : Nat) (F : FuncId) (ca : Array Value) (part : PS → TEx × PS) (s : PS) (w : World) (h : Rdr R e w s) (eg : ∀ args w, (callFunc F args).run Tryz.prog w = .ok (.enter F args) w)
    (hp : PartOk R e w F ca part) (hst : ∀ s, Stp e s (part s).2) :
    Calls Tryz.prog 104 #[.pointer (some ⟨R, 0, none⟩), .int .i64 (g : Int), .func (.func F) #[] ca] w (GotE R e w (chainM e g part s)) := by
  have o0 : Own (w.alloc (.cells #[.int .i64 0, .string noText, .int .i64 0, .int .i64 0, .string noText, .slice none 0 0] 60)) w.heap.size 60 [.int .i64 0, .string noText, .int .i64 0, .int .i64 0, .string noText, .slice none 0 0] := heap_alloc_new _ _
  have HO0 := Lib.hid o0
  have HP := Lib.hid hp
  have HS := Lib.hid hst
  have HRw : R < w.heap.size := h.lt
  have k0 : Kr R w (w.alloc (.cells #[.int .i64 0, .string noText, .int .i64 0, .int .i64 0, .string noText, .slice none 0 0] 60)) := (Kept.refl [R] w).alloc _
  have HC0 := Lib.hid (hp s _ k0 (h.below ((Below.refl w.heap.size w).alloc (Nat.le_refl _) _)))
  have K0 := Lib.hid k0
  have HF : Hid (chainM e g part s = chainN e g part (part s).2.rest.length (part s).1 (part s).2) := rfl
  clear h hp hst o0 k0
  obtain ⟨b0, hb0⟩ : ∃ b, b = w.heap.size := ⟨_, rfl⟩
  have HB0 := Lib.hid hb0
  go_enter Tryz.func104, Tryz.ntmps104
  go_wp2_with fail
  refine HC0.out.mono ?_
  rintro r w1 ⟨A, c, rfl, s1, r1, k1⟩
  generalize part s = q at *
  obtain ⟨x, sp⟩ := q
  simp only at s1 r1 HF ⊢
  have ho1 : Own (w1.alloc (.cells #[.int .i64 x.op, .string x.t.v, .int .i64 x.t.k, .int .i64 x.t.n, .string x.t.s, .slice A x.kids.length c] 60)) w1.heap.size 60 (exL x A c) := heap_alloc_new _ _
  have hsz : w.heap.size < w1.heap.size := by have := k1.size; simp at this; omega
  have hR1 := r1.below ((Below.refl w1.heap.size w1).alloc (o := .cells #[.int .i64 x.op, .string x.t.v, .int .i64 x.t.k, .int .i64 x.t.n, .string x.t.s, .slice A x.kids.length c] 60) (Nat.le_refl _))
  have HT1 := Lib.hid (takeOne_any R e g sp _ hR1)
  have HI0 : Hid (∀ W, Rdr R e W (take1 e sp g) → Kr R (w1.alloc (.cells #[.int .i64 x.op, .string x.t.v, .int .i64 x.t.k, .int .i64 x.t.n, .string x.t.s, .slice A x.kids.length c] 60)) W → ChI R e b0 w1.heap.size w g part (chainM e g part s) sp x A c W) := fun W hW hk =>
    ⟨hW, hk.own ho1 (by simp; omega), by rw [hb0]; exact hk.own ((k1.own HO0.out (by simp; omega)).alloc _) (by simp; omega),
      s1.keep (Nat.le_trans (by simp) hk.size) (fun k hk1 hp => (hk.block k (by simp; omega) (by simp at hp ⊢; omega)).trans (allocOld w1 _ k hk1)) (fun k hk1 hp => by simp only [World.size_alloc] at hp; omega),
      Kr.tr (Kr.tr K0.out (k1.alloc _)) hk, ⟨_, Nat.le_refl _, HF.out.symm⟩, by omega, by omega, by omega, HRw⟩
  generalize chainM e g part s = fin at *
  have hb1 : b0 < w1.heap.size := by omega
  obtain ⟨b1, hb1e⟩ : ∃ b, b = w1.heap.size := ⟨_, rfl⟩
  have HB1 := Lib.hid hb1e
  clear s1 r1 k1 ho1 hR1 HC0 HF
  go_wp2_with fail
  refine HT1.out.mono ?_
  rintro r w2 ⟨rfl, h2, k2⟩
  have HI := Lib.hid (HI0.out w2 h2 k2)
  rw [← hb1e] at HI
  clear h2 k2 HT1 HI0 hb1e hb0 hb1 hsz
  go_wp2_with fail
  rw [show (Value.pointer (some ⟨w1.heap.size, 0, none⟩)) = .pointer (some ⟨b1, 0, none⟩) by rw [HB1.out]]
  rw [show (Value.pointer (some ⟨w.heap.size, 0, none⟩)) = .pointer (some ⟨b0, 0, none⟩) by rw [HB0.out]]
  go_loopw [8] (fun op wr => ∃ (sp : PS) (x : TEx) (A : Option Addr) (c : Nat), op = .int .i64 (got1 e sp g : Int) ∧ Hid (ChI R e b0 b1 w g part fin sp x A c wr)) (fun op wr => 2 * restN R wr + (if intOf op = 0 then 0 else 1))
  case atStart => exact ⟨sp, x, A, c, rfl, HI⟩
  case round =>
    clear HI
    obtain ⟨sp, x, A, c, rfl, HI⟩ := hrel
    have HM : Hid (2 * restN R wr + (if intOf (.int .i64 (got1 e sp g : Int)) = 0 then 0 else 1) = 2 * (take1 e sp g).rest.length + (if ((got1 e sp g : Nat) : Int) = 0 then 0 else 1)) := by show _ = _; rw [HI.out.rdr.restN]; rfl
    by_cases h0 : got1 e sp g = 0
    · have HE : Hid (fin = (x, sp)) := by
        obtain ⟨n, _, hf⟩ := HI.out.fin
        rw [chainN_stop h0] at hf
        exact hf.symm
      have HR := HI.out.rdr
      have e1 : take1 e sp g = sp := by unfold take1; unfold got1 at h0; rw [if_pos h0]
      rw [e1] at HR
      have HR := Lib.hid HR
      have HOx := Lib.hid HI.out.own
      have HOr := Lib.hid HI.out.res
      have q0 := HOr.out.lt
      rw [h0]
      go_wp2_with (first
        | (refine wpList_load_row (o := ⟨some 27, _, _, _, _, _⟩) rfl 60 _ rfl b1 rfl 60 #[.int .i64 x.op, .string x.t.v, .int .i64 x.t.k, .int .i64 x.t.n, .string x.t.s, .slice A x.kids.length c] (0, 0) _ HOx.out Tryz.underlying60 rfl infoTexp ?_)
        | (refine wpList_store_row (o := ⟨none, .store 60 _ _, _, _, _, _⟩) rfl 60 _ _ rfl b0 #[.int .i64 x.op, .string x.t.v, .int .i64 x.t.k, .int .i64 x.t.n, .string x.t.s, .slice A x.kids.length c] rfl rfl 60 _ HOr.out infoTexp rfl (by simp [Value.oneCell']) ?_))
      have hl := HI.out.lo
      have hst := HI.out.stab.keep (w' := wr.setRow b0 #[.int .i64 x.op, .string x.t.v, .int .i64 x.t.k, .int .i64 x.t.n, .string x.t.s, .slice A x.kids.length c]) (P' := fun k => w.heap.size ≤ k) (by simp) (fun k hk hp => setRow_other wr b0 k _ (by omega)) (fun k hk hp => hp.1)
      refine bodyPost_ret (v := .agg #[.int .i64 x.op, .string x.t.v, .int .i64 x.t.k, .int .i64 x.t.n, .string x.t.s, .slice A x.kids.length c]) (results_cell_row (P := Tryz.prog) rfl _ _ b0 60 _ (0, 0) _ rfl (HOr.out.setRow _) Tryz.underlying60 rfl infoTexp) rfl ?_
      rw [HE.out]
      exact GotE.of hst (HR.out.setRow (by omega) _) (HI.out.kr.setRow (.inr (by omega)) _)
    · have h0i : ¬ ((got1 e sp g : Int) = 0) := by omega
      have e1 : take1 e sp g = adv sp := by unfold take1; unfold got1 at h0; rw [if_neg h0]
      have HR := HI.out.rdr
      rw [e1] at HR HM
      have HC := Lib.hid (HP.out (adv sp) wr HI.out.kr HR)
      have HFn : Hid (∃ n, (part (adv sp)).2.rest.length ≤ n ∧ chainN e g part n (.mk (got1 e sp g) zT [x, (part (adv sp)).1]) (part (adv sp)).2 = fin) := by
        obtain ⟨n, hn, hf⟩ := HI.out.fin
        have hlt := nx_lt1 h0
        cases n with
        | zero => omega
        | succ n =>
          unfold chainN at hf
          rw [if_neg h0] at hf
          exact ⟨n, by have := (HS.out (adv sp)).len; omega, hf⟩
      have HLen := Lib.hid (HS.out (adv sp)).len
      clear HR e1 h0
      generalize (got1 e sp g : Int) = op at *
      go_wp2_with fail
      refine HC.out.mono ?_
      rintro r w3 ⟨A2, c2, rfl, s3, r3, k3⟩
      generalize part (adv sp) = q at *
      obtain ⟨y, sp2⟩ := q
      simp only at s3 r3 HFn HLen ⊢
      have hl := HI.out.lo
      have hR3 : R < w3.heap.size := r3.lt
      have hw3 : wr.heap.size ≤ w3.heap.size := k3.size
      have q1 := HI.out.own.lt
      have q0 := HI.out.res.lt
      have HOx := Lib.hid ((k3.own HI.out.own (by simp; omega)).alloc (.cells #[.int .i64 y.op, .string y.t.v, .int .i64 y.t.k, .int .i64 y.t.n, .string y.t.s, .slice A2 y.kids.length c2] 60))
      have HOy : Hid (Own (w3.alloc (.cells #[.int .i64 y.op, .string y.t.v, .int .i64 y.t.k, .int .i64 y.t.n, .string y.t.s, .slice A2 y.kids.length c2] 60)) w3.heap.size 60 (exL y A2 c2)) := heap_alloc_new _ _
      go_wp2_with (first
        | (refine wpList_load_row (o := ⟨some 23, _, _, _, _, _⟩) rfl 60 _ rfl b1 rfl 60 #[.int .i64 x.op, .string x.t.v, .int .i64 x.t.k, .int .i64 x.t.n, .string x.t.s, .slice A x.kids.length c] (0, 0) _ HOx.out Tryz.underlying60 rfl infoTexp ?_)
        | (refine wpList_load_row (o := ⟨some 24, _, _, _, _, _⟩) rfl 60 _ rfl w3.heap.size rfl 60 #[.int .i64 y.op, .string y.t.v, .int .i64 y.t.k, .int .i64 y.t.n, .string y.t.s, .slice A2 y.kids.length c2] (0, 0) _ HOy.out Tryz.underlying60 rfl infoTexp ?_)
        | (refine wpList_store_row (o := ⟨none, .store 60 _ _, _, _, _, _⟩) rfl 60 _ _ rfl b1 #[.int .i64 op, .string noText, .int .i64 0, .int .i64 0, .string noText, .slice (some ⟨w3.heap.size + 1, 0, none⟩) 2 2] rfl rfl 60 _ (HOx.out.alloc (.cells (exL x A c ++ exL y A2 c2).toArray 60)) infoTexp rfl (by simp [Value.oneCell']) ?_)
        | fail)
      have HS2 := Lib.hid (HI.out.step (c2 := c2) s3 r3 k3 HFn.out)
      clear s3 r3 k3 HOx HOy HFn HP HS
      refine (takeOne_any R e g sp2 _ HS2.out.1).mono ?_
      rintro r w4 ⟨rfl, h4, k4⟩
      have HI4 := Lib.hid (HS2.out.2 w4 h4 k4)
      have HM4 : Hid (2 * restN R w4 + (if ((got1 e sp2 g : Nat) : Int) = 0 then 0 else 1) < 2 * (adv sp).rest.length + 1) := by
        have := take1_len (e := e) (g := g) (s := sp2)
        have := HLen.out
        show _ < _
        rw [h4.restN]
        omega
      have HMr : Hid (2 * restN R wr + (if intOf (.int .i64 op) = 0 then 0 else 1) = 2 * (adv sp).rest.length + 1) := by
        have := HM.out
        rw [if_neg h0i] at this
        exact this
      clear h4 k4 HS2 HM
      go_wp2_with fail
      go_roundw
      case rel => exact ⟨sp2, _, _, _, rfl, HI4⟩
      case measure =>
        have h1 := HM4.out
        have h2 := HMr.out
        exact Nat.lt_of_lt_of_eq h1 h2.symm
end Go.Proofs.YtolnikpihedmbaaGreatDoor
