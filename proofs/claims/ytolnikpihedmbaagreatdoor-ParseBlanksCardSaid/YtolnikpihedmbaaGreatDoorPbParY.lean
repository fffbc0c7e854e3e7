/- What Parse and Rule answer. Conditions: what is laid; texts of at most 2^47 bytes. -/
import Derived.Test.YtolnikpihedmbaaGreatDoorPbParX
import Derived.Test.YtolnikpihedmbaaGreatDoorPbParLj
import Derived.BigRegion
set_option linter.unusedVariables false
set_option linter.unusedSimpArgs false
namespace Go.Proofs.YtolnikpihedmbaaGreatDoor
open Go.RowKit Go.Deep Go.Shelf

section
variable {P : Program}
theorem results_cell_row3 {fn : Func} {p t u : Tmp} {ty : TypeId} (h : fn.results = #[.cell p ty, .tmp t, .tmp u]) (tmps : Array Value) (w : World) (g : Nat) (T : TypeId) (cs : Array Value) (fr : Nat × Nat) (d : TypeDesc)
    (hp : tmps.getD p undef = .pointer (some ⟨g, 0, none⟩)) (hg : w.heap[g]? = some (.cells cs T fr))
    (hu : P.underlying ty = some d) (hd : (match d with | .struct _ | .array _ _ => true | _ => false) = true) (hi : (P.info? ty).map (·.size) = some cs.size) :
    (results fn tmps).run P w = .ok (.tuple #[.agg cs, tmps.getD t undef, tmps.getD u undef]) w := by
  have hp' : tmps[p]?.getD undef = .pointer (some ⟨g, 0, none⟩) := by simpa using hp
  simp [results, h, hp', asAddr, run_loadVar_row w g T ty cs fr d hg hu hd hi]
end
theorem ans_toks {s : ByteArray} (h : (ansOf s).2.1 = 0) : Toks (ansOf s).1 ∧ s.size ≤ 4000 ∧ (ansOf s).1 = (lexA kindW 0 s.data.toList).1 ∧ (lexA kindW 0 s.data.toList).2 = none := by
  unfold ansOf at h ⊢
  by_cases hl : 4000 < s.size
  · rw [if_pos hl] at h; exact absurd h (by decide)
  · rw [if_neg hl] at h ⊢
    have hs : s.data.toList.length = s.size := by simp
    cases ho : (lexA kindW 0 s.data.toList).2 with
    | some p => rw [ho] at h; exact absurd h (show ¬ ((2 : Int) = 0) by decide)
    | none =>
      refine ⟨⟨lexA_okT _ _, ?_, fun x hx => ?_⟩, by omega, rfl, rfl⟩
      · have := (lexA_len (kw := kindW) 0 s.data.toList).2
        show (lexA kindW 0 s.data.toList).1.length ≤ 4000
        omega
      · have := lexA_at (kw := kindW) s.data.toList 0 (Nat.zero_le _) x (by rw [List.drop_zero]; exact hx)
        omega
/-- what is asked of the world when a text is read. -/
def Rdy (w : World) : Prop := Lays w ∧ WordsAt w
theorem Rdy.below {w w' : World} (h : Rdy w) (hb : Below w.heap.size w w') : Rdy w' := ⟨h.1.below hb, h.2.low hb (World.block_lt_of_cell? w _ (h.2 0 _ rfl).1)⟩
theorem Rdy.env {w : World} (h : Rdy w) : Env w.heap.size w := ⟨h.1, h.2, h.1.gl, World.block_lt_of_cell? w _ (h.2 0 _ rfl).1⟩
/-- a reader of all tokens, in a new box. -/
theorem rdr_new {w : World} {A : Option Addr} {c e : Nat} {l : List Tk} (h : Rdy w) (ht : Toks l) (hc : l.length ≤ c) (hr : TRow w A l) :
    Rdr w.heap.size e (w.alloc (.cells #[.slice A l.length c, .int .i64 (e : Int), .int .i64 0, .int .i64 0] 89)) ⟨l, 0, 0⟩ := by
  have hb : Below w.heap.size w (w.alloc (.cells #[.slice A l.length c, .int .i64 (e : Int), .int .i64 0, .int .i64 0] 89)) := (Below.refl _ _).alloc (Nat.le_refl _) _
  exact ⟨⟨A, c, heap_alloc_new _ _, hc, fun h0 => by
    obtain ⟨b, o, h1, h2, h3⟩ := hr h0
    refine ⟨b, o, h1, h2, fun i x hx => ?_⟩
    obtain ⟨d0, d1, d2⟩ := h3 i x hx
    exact ⟨(hb.cell (p := ⟨b, _, none⟩) h2).trans d0, (hb.cell (p := ⟨b, _, none⟩) h2).trans d1, (hb.cell (p := ⟨b, _, none⟩) h2).trans d2⟩⟩, h.env.low hb, ht⟩
theorem Kr.new {R : Nat} {w w' : World} (h : Kr R w w') : Below R w w' → True := fun _ => trivial
def resQ (q : TPg × PS) : TPg × Int × Int := if q.2.flt ≠ 0 then (⟨[], []⟩, q.2.pos, q.2.flt) else (q.1, 0, 0)
/-- the program, the place and the error's number of a text. -/
def resP (s : ByteArray) : TPg × Int × Int := if (ansOf s).2.1 ≠ 0 then (⟨[], []⟩, (ansOf s).2.2, (ansOf s).2.1) else resQ (progM s.size ⟨(ansOf s).1, 0, 0⟩)
def GotWP (w : World) (q : TPg × Int × Int) (r : Ending) (w' : World) : Prop := ∃ A c B d, r = .returned (.tuple #[pgV q.1 A c B d, .int .i64 q.2.1, errV q.2.2]) ∧ Stab w' (fun k => w.heap.size ≤ k) (fun W => PgV W q.1 A B) ∧ Below w.heap.size w w'
def GotWR (w : World) (q : TRu × Int × Int) (r : Ending) (w' : World) : Prop := ∃ A c B d, r = .returned (.tuple #[ruV q.1 A c B d, .int .i64 q.2.1, errV q.2.2]) ∧ Stab w' (fun k => w.heap.size ≤ k) (fun W => RuV W q.1 A B) ∧ Below w.heap.size w w'
theorem below_setRow {B : Nat} {w w' : World} (h : Below B w w') (b : Nat) (hb : B ≤ b) (cs : Array Value) : Below B w (w'.setRow b cs) := ⟨h.os, h.tape, h.output, Nat.le_trans h.size (by simp), fun k hk => (setRow_other w' b k cs (by omega)).trans (h.block k hk)⟩
set_option maxRecDepth 100000 in
set_option maxHeartbeats 8000000 in
theorem whole_prog (s : ByteArray) (w : World) (hs : s.size ≤ maxLen) (h : Rdy w) :
    Calls Tryz.prog 12 #[.string s, .func (.func 13) #[] #[]] w (GotWP w (resP s)) := by
  have hb : Below w.heap.size w ((w.alloc (.cells #[.slice none 0 0, .slice none 0 0] 26)).alloc (.cells #[.slice none 0 0, .slice none 0 0] 26)) := ((Below.refl _ _).alloc (Nat.le_refl _) _).alloc (by simp) _
  have o1 : Own (w.alloc (.cells #[.slice none 0 0, .slice none 0 0] 26)) w.heap.size 26 [.slice none 0 0, .slice none 0 0] := heap_alloc_new _ _
  have o2 := heap_alloc_new (w.alloc (.cells #[.slice none 0 0, .slice none 0 0] 26)) (.cells #[.slice none 0 0, .slice none 0 0] 26)
  simp only [World.size_alloc] at o2
  have HO1 := Lib.hid (o1.alloc (.cells #[.slice none 0 0, .slice none 0 0] 26))
  have HO2 : Hid (Own ((w.alloc (.cells #[.slice none 0 0, .slice none 0 0] 26)).alloc (.cells #[.slice none 0 0, .slice none 0 0] 26)) (w.heap.size + 1) 26 [.slice none 0 0, .slice none 0 0]) := o2
  have HLs := Lib.hid (ListU_any s ((w.alloc (.cells #[.slice none 0 0, .slice none 0 0] 26)).alloc (.cells #[.slice none 0 0, .slice none 0 0] 26)) hs (h.below hb).1)
  have HRy := Lib.hid (h.below hb)
  have HB := Lib.hid hb
  obtain ⟨b0, hb0⟩ : ∃ b, b = w.heap.size := ⟨_, rfl⟩
  obtain ⟨b1, hb1⟩ : ∃ b, b = w.heap.size + 1 := ⟨_, rfl⟩
  have HB0 := Lib.hid hb0
  have HB1 := Lib.hid hb1
  rw [← hb0] at HO1
  rw [← hb1] at HO2
  have hszl : w.heap.size ≤ b0 ∧ b0 < b1 := by omega
  have HSz : Hid (b1 + 1 = ((w.alloc (.cells #[.slice none 0 0, .slice none 0 0] 26)).alloc (.cells #[.slice none 0 0, .slice none 0 0] 26)).heap.size) := by show _ = _; simp; omega
  have HAn := Lib.hid (ans_toks (s := s))
  unfold maxLen at hs
  unfold resP
  have k1 : ∀ w, (binOp .neq 28 .nilIface .nilIface).run Tryz.prog w = .ok (.bool false) w := fun w => by kernel_rfl
  have k2 : ∀ n w, (binOp .neq 28 (eno n) .nilIface).run Tryz.prog w = .ok (.bool true) w := fun n w => by kernel_rfl
  clear h hb o1 o2 hb0 hb1
  generalize ansOf s = an at *
  obtain ⟨L, ep, en⟩ := an
  by_cases hen : ep ≠ 0
  · simp only [hen, ne_eq, not_false_eq_true, if_true]
    unfold LiU at HLs
    have he : errV ep = eno ep := err_eno hen
    have HEe := Lib.hid he
    simp only [he] at HLs ⊢
    have k3 := k2 ep
    clear hen he HAn k1 k2
    go_enter Tryz.func12, Tryz.ntmps12
    go_wp2_with fail
    refine HLs.out.mono ?_
    rintro r w1 ⟨A0, c0, rfl, hc0, hr, bb⟩
    have HOr := Lib.hid (HO1.out.below bb)
    have HOn := Lib.hid (HO2.out.below bb)
    have HBb := Lib.hid (HB.out.trans (bb.mono HB.out.size))
    clear bb hr hc0 HLs
    rw [show (Value.pointer (some ⟨w.heap.size + 1, 0, none⟩)) = .pointer (some ⟨b1, 0, none⟩) by rw [HB1.out]]
    rw [show (Value.pointer (some ⟨w.heap.size, 0, none⟩)) = .pointer (some ⟨b0, 0, none⟩) by rw [HB0.out]]
    go_wp2_with (first
      | (refine wpList_load_row (o := ⟨some 21, _, _, _, _, _⟩) rfl 26 _ rfl b1 rfl 26 #[.slice none 0 0, .slice none 0 0] (0, 0) _ HOn.out Tryz.underlying26 rfl infoTpg2 ?_)
      | (refine wpList_store_row (o := ⟨none, .store 26 _ _, _, _, _, _⟩) rfl 26 _ _ rfl b0 #[.slice none 0 0, .slice none 0 0] rfl rfl 26 _ HOr.out infoTpg2 rfl (by simp [Value.oneCell']) ?_)
      | fail)
    try simp only [Exit.inBlock, Exit.then]
    refine bodyPost_ret (v := .tuple #[.agg #[.slice none 0 0, .slice none 0 0], .int .i64 en, eno ep]) (results_cell_row3 (P := Tryz.prog) (p := 4) (t := 5) (u := 6) rfl _ _ b0 26 _ (0, 0) _ rfl (HOr.out.setRow [.slice none 0 0, .slice none 0 0]) Tryz.underlying26 rfl infoTpg2) rfl ?_
    exact ⟨none, 0, none, 0, by rw [HEe.out] <;> rfl, fun _ _ _ => ⟨Rg.nil, Rg.nil⟩, below_setRow HBb.out b0 hszl.1 _⟩
  · have hz : ep = 0 := by
      by_cases h9 : ep = 0
      · exact h9
      · exact absurd h9 hen
    subst hz
    simp only [ne_eq, not_true_eq_false, if_false]
    have HTok := Lib.hid (HAn.out rfl).1
    have he : errV 0 = .nilIface := err0
    unfold LiU at HLs
    simp only [he] at HLs
    have HRd := Lib.hid (fun R e s w (h : Rdr R e w s) => program_any R e s w h)
    have HRf := Lib.hid (fun R e s w (h : Rdr R e w s) => refuse_any R e 2 s w h)
    have eg := enters_of Tryz.func13 (by kernel_rfl) rfl
    clear HAn hen he
    go_enter Tryz.func12, Tryz.ntmps12
    go_wp2_with fail
    refine HLs.out.mono ?_
    rintro r w1 ⟨A0, c0, rfl, hc0, hr, bb⟩
    try simp only at hc0 hr
    have hRy1 := HRy.out.below bb
    have HR0 := Lib.hid (rdr_new (e := s.size) hRy1 HTok.out hc0 hr)
    have bx : Below w1.heap.size w1 (w1.alloc (.cells #[.slice A0 L.length c0, .int .i64 (s.size : Int), .int .i64 0, .int .i64 0] 89)) := (Below.refl _ _).alloc (Nat.le_refl _) _
    have HOr := Lib.hid ((HO1.out.below bb).below bx)
    have HOn := Lib.hid ((HO2.out.below bb).below bx)
    have HBb := Lib.hid (HB.out.trans ((bb.mono HB.out.size).trans (bx.mono (Nat.le_trans HB.out.size bb.size))))
    have hq1 : b1 < w1.heap.size := by have := HSz.out; have := bb.size; omega
    obtain ⟨R, hRe⟩ : ∃ b, b = w1.heap.size := ⟨_, rfl⟩
    rw [← hRe] at HR0
    have HRe := Lib.hid hRe
    have hqR : b1 < R := by omega
    have HRd1 := Lib.hid (HRd.out R s.size ⟨L, 0, 0⟩ _ HR0.out)
    have HSR : Hid ((w1.alloc (.cells #[.slice A0 L.length c0, .int .i64 (s.size : Int), .int .i64 0, .int .i64 0] 89)).heap.size = R + 1) := by show _ = _; simp; omega
    clear bb bx hr hc0 HLs hRy1 hRe hq1 HR0 HRd HO1 HO2 HB HSz HRy
    go_wp2_with fail
    rw [show (Value.pointer (some ⟨w.heap.size + 1, 0, none⟩)) = .pointer (some ⟨b1, 0, none⟩) by rw [HB1.out]]
    rw [show (Value.pointer (some ⟨w.heap.size, 0, none⟩)) = .pointer (some ⟨b0, 0, none⟩) by rw [HB0.out]]
    rw [show (Value.pointer (some ⟨w1.heap.size, 0, none⟩)) = .pointer (some ⟨R, 0, none⟩) by rw [HRe.out]]
    refine HRd1.out.mono ?_
    rintro r w2 ⟨A, c, B, d, rfl, st2, r2, k2'⟩
    rw [HSR.out] at st2
    have hs2 := k2'.size
    rw [HSR.out] at hs2
    have hE9 : (progM s.size ⟨L, 0, 0⟩).2.rest = [] := progM_end _
    generalize progM s.size ⟨L, 0, 0⟩ = q at *
    obtain ⟨x, sp⟩ := q
    simp only at st2 r2 hE9 ⊢
    have HOr2 := Lib.hid ((k2'.own HOr.out (by simp; omega)).alloc (.cells #[.slice A x.decls.length c, .slice B x.rules.length d] 26))
    have HOn2 := Lib.hid ((k2'.own HOn.out (by simp; omega)).alloc (.cells #[.slice A x.decls.length c, .slice B x.rules.length d] 26))
    have HOx : Hid (Own (w2.alloc (.cells #[.slice A x.decls.length c, .slice B x.rules.length d] 26)) w2.heap.size 26 [.slice A x.decls.length c, .slice B x.rules.length d]) := heap_alloc_new _ _
    have ba : Below w2.heap.size w2 (w2.alloc (.cells #[.slice A x.decls.length c, .slice B x.rules.length d] 26)) := (Below.refl _ _).alloc (Nat.le_refl _) _
    have HR2 := Lib.hid (r2.below ba)
    have ST2 := Lib.hid ((st2.below ba).more (P' := fun k => R < k) (fun k hk hp => by have h9 : R + 1 ≤ k := hp; omega))
    have HBw := Lib.hid (HBb.out.trans ((Kr.low k2' (by rw [HSR.out]; omega)).mono (show w.heap.size ≤ R by omega) |>.trans (ba.mono (by omega))))
    have hq5 : R < w2.heap.size := by omega
    clear st2 r2 k2' ba HRd1 HBb HOr HOn HSR hs2
    obtain ⟨A9, c9, hO9, hc9, ht9⟩ := HR2.out.own
    have r0 := hO9.cell 0
    have r2 := hO9.cell 2
    have r3 := hO9.cell 3
    have rq := hO9.lt
    simp only [rdL, List.getElem?_cons_zero, List.getElem?_cons_succ] at r0 r2 r3
    have hl9 : sp.rest.length = 0 := by rw [hE9]; rfl
    rw [hl9] at r0
    by_cases hf : sp.flt = 0
    · have hq : resQ (x, sp) = (x, 0, 0) := by unfold resQ; rw [if_neg (by simpa using hf)]
      rw [hf] at r2
      go_wp2_with (first
        | (refine wpList_load_row (o := ⟨some 55, _, _, _, _, _⟩) rfl 26 _ rfl w2.heap.size rfl 26 #[.slice A x.decls.length c, .slice B x.rules.length d] (0, 0) _ HOx.out Tryz.underlying26 rfl infoTpg2 ?_)
        | (refine wpList_store_row (o := ⟨none, .store 26 _ _, _, _, _, _⟩) rfl 26 _ _ rfl b0 #[.slice A x.decls.length c, .slice B x.rules.length d] rfl rfl 26 _ HOr2.out infoTpg2 rfl (by simp [Value.oneCell']) ?_)
        | fail)
      try simp only [Exit.inBlock, Exit.then]
      refine bodyPost_ret (v := .tuple #[.agg #[.slice A x.decls.length c, .slice B x.rules.length d], .int .i64 0, .nilIface]) (results_cell_row3 (P := Tryz.prog) (p := 4) (t := 5) (u := 6) rfl _ _ b0 26 _ (0, 0) _ rfl (HOr2.out.setRow [.slice A x.decls.length c, .slice B x.rules.length d]) Tryz.underlying26 rfl infoTpg2) rfl ?_
      rw [hq]
      exact ⟨A, c, B, d, rfl, ST2.out.keep (P' := fun k => w.heap.size ≤ k) (by simp) (fun k hk hp => setRow_other _ b0 k _ (by have h9 : R < k := hp; omega)) (fun k hk hp => by have h9 : R < k := hp; omega), below_setRow HBw.out b0 hszl.1 _⟩
    · have hq : resQ (x, sp) = (⟨[], []⟩, (sp.pos : Int), (sp.flt : Int)) := by unfold resQ; rw [if_pos hf]
      have hfi : ¬ ((sp.flt : Int) = 0) := by omega
      generalize (sp.flt : Int) = fl at *
      generalize (sp.pos : Int) = ps at *
      have n0 := HOn2.out.cell 0
      have p0 := HOr2.out.cell 0
      have g0 := HOr2.out.frozen 0
      have n1 := HOn2.out.cell 1
      have p1 := HOr2.out.cell 1
      have g1 := HOr2.out.frozen 1
      have pq := HOr2.out.lt
      have nq := HOn2.out.lt
      simp only [List.getElem?_cons_zero, List.getElem?_cons_succ] at n0 p0 n1 p1
      go_wp2_with fail
      go_region
      all_goals
        go_wp2
        try simp only [Exit.inBlock, Exit.then]
        refine bodyPost_ret (v := .tuple #[.agg #[.slice none 0 0, .slice none 0 0], .int .i64 ps, eno fl]) (results_cell_row3 (P := Tryz.prog) (p := 4) (t := 5) (u := 6) rfl _ _ b0 26 _ (0, 0) _ rfl (show Own _ b0 26 [.slice none 0 0, .slice none 0 0] from (((HOr2.out.set 0 (.slice none 0 0)).set 1 (.slice none 0 0))).below (Below.refl _ _).drew) Tryz.underlying26 rfl infoTpg2) rfl ?_
        rw [hq, ← err_eno hfi]
        exact ⟨none, 0, none, 0, rfl, fun _ _ _ => ⟨Rg.nil, Rg.nil⟩, ((HBw.out.setCell (p := ⟨b0, 0, none⟩) hszl.1 _).setCell (p := ⟨b0, 1, none⟩) hszl.1 _).drew⟩
end Go.Proofs.YtolnikpihedmbaaGreatDoor
