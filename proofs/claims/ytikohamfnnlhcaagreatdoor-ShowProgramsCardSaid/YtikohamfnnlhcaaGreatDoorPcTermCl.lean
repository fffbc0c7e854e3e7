/- The law's copy of a literal in the document's form. Conditions: at most 30,000 nodes and terms. -/
import Derived.Test.YtikohamfnnlhcaaGreatDoorPcTermCq
import Derived.Test.YtikohamfnnlhcaaGreatDoorPcTermTb
set_option linter.unusedVariables false
set_option linter.unusedSimpArgs false
namespace Go.Proofs.YtikohamfnnlhcaaGreatDoor
open Go.RowKit Go.Deep Go.Shelf

theorem run_loadVar_one {P : Program} (w : World) (b p : Nat) (ty : TypeId) (v : Value) (d : TypeDesc) (hc : w.cell? ⟨b, p, none⟩ = some v) (hu : P.underlying ty = some d) (hd : (match d with | .struct _ | .array _ _ => true | _ => false) = false) :
    (loadVar ty ⟨b, p, none⟩).run P w = .ok v w := by
  have hagg : (isAgg ty).run P w = .ok false w := by
    unfold isAgg
    rw [Sem.run_bind, run_underlying hu w]
    cases d <;> simp_all
  simp [loadVar, Sem.run_bind, hagg, hc]
theorem infoTam : (Tryz.prog.info? 49).map (·.size) = some 2 := by kernel_rfl
theorem infoTex : (Tryz.prog.info? 61).map (·.size) = some 6 := by kernel_rfl
theorem infoRlt : (Tryz.prog.info? 77).map (·.size) = some 17 := by kernel_rfl
/-- an expression's copy, told so. -/
theorem exp_stab {w0 w : World} {e : TEx} {A : Option Addr} (h : ExVP w (fun k => w0.heap.size ≤ k) e A) : Stab w (fun k => w0.heap.size ≤ k) (fun W => ExV W e A) := fun w' hs hk => (h.keep (P' := fun k => w0.heap.size ≤ k) hk hs (fun _ _ h => h)).exV
/-- a literal's copy. -/
def GotLc (w : World) (x : TLt) (r : Ending) (w' : World) : Prop := ∃ A c L d R f, r = .returned (ltV x A c L d R f) ∧ Stab w' (fun k => w.heap.size ≤ k) (fun W => LtV W x A L R) ∧ Below w.heap.size w w'
def lcD (k : Nat) : Nat := ([3, 4, 5, 6, 7, 8, 9, 10, 11, 12, 13, 14, 15, 16, 17, 18] : List Nat).getD k 0
def LcF (x : TLt) (A : Option Addr) (c : Nat) (L : Option Addr) (d : Nat) (R : Option Addr) (f n0 b1 : Nat) : Nat → Value → World → Prop
  | 0, v, _ => v = .pointer (some ⟨b1, 0, none⟩)
  | 1, v, _ => v = .int .i64 x.kind
  | 2, v, _ => v = .pointer (some ⟨b1, 1, none⟩)
  | 3, v, _ => v = .agg #[.string x.atom.rel, .slice A x.atom.args.length c]
  | 4, v, W => ∃ A2 c2, v = .agg #[.string x.atom.rel, .slice A2 x.atom.args.length c2] ∧ AmV W x.atom A2 ∧ ∀ ad, A2 = some ad → n0 ≤ ad.block
  | 5, v, _ => v = .pointer (some ⟨b1, 3, none⟩)
  | 6, v, _ => v = .int .i64 x.op
  | 7, v, _ => v = .pointer (some ⟨b1, 4, none⟩)
  | 8, v, _ => v = .agg #[.int .i64 x.left.op, .string x.left.t.v, .int .i64 x.left.t.k, .int .i64 x.left.t.n, .string x.left.t.s, .slice L x.left.kids.length d]
  | 9, v, W => ∃ A2 c2, v = .agg #[.int .i64 x.left.op, .string x.left.t.v, .int .i64 x.left.t.k, .int .i64 x.left.t.n, .string x.left.t.s, .slice A2 x.left.kids.length c2] ∧ Stab W (fun k => n0 ≤ k) (fun W => ExV W x.left A2)
  | 10, v, _ => v = .pointer (some ⟨b1, 10, none⟩)
  | 11, v, _ => v = .agg #[.int .i64 x.right.op, .string x.right.t.v, .int .i64 x.right.t.k, .int .i64 x.right.t.n, .string x.right.t.s, .slice R x.right.kids.length f]
  | 12, v, W => ∃ A2 c2, v = .agg #[.int .i64 x.right.op, .string x.right.t.v, .int .i64 x.right.t.k, .int .i64 x.right.t.n, .string x.right.t.s, .slice A2 x.right.kids.length c2] ∧ Stab W (fun k => n0 ≤ k) (fun W => ExV W x.right A2)
  | 13, v, _ => v = .pointer (some ⟨b1, 16, none⟩)
  | 14, v, _ => v = .int .i64 x.pos
  | 15, v, W => ∃ A2 c2 L2 d2 R2 f2, v = .agg #[.int .i64 x.kind, .string x.atom.rel, .slice A2 x.atom.args.length c2, .int .i64 x.op, .int .i64 x.left.op, .string x.left.t.v, .int .i64 x.left.t.k, .int .i64 x.left.t.n, .string x.left.t.s, .slice L2 x.left.kids.length d2, .int .i64 x.right.op, .string x.right.t.v, .int .i64 x.right.t.k, .int .i64 x.right.t.n, .string x.right.t.s, .slice R2 x.right.kids.length f2, .int .i64 x.pos] ∧ (AmV W x.atom A2 ∧ ∀ ad, A2 = some ad → n0 ≤ ad.block) ∧ Stab W (fun k => n0 ≤ k) (fun W => ExV W x.left L2) ∧ Stab W (fun k => n0 ≤ k) (fun W => ExV W x.right R2)
  | _, _, _ => False
theorem LcF.keep {x : TLt} {A : Option Addr} {c : Nat} {L : Option Addr} {d : Nat} {R : Option Addr} {f n0 b1 : Nat} : ∀ k v X Y, LcF x A c L d R f n0 b1 k v X → Below X.heap.size X Y → LcF x A c L d R f n0 b1 k v Y
  | 0, _, _, _, h, _ => h
  | 1, _, _, _, h, _ => h
  | 2, _, _, _, h, _ => h
  | 3, _, _, _, h, _ => h
  | 4, _, _, _, ⟨p, q, h1, h2, h3⟩, hb => ⟨p, q, h1, h2.below hb, h3⟩
  | 5, _, _, _, h, _ => h
  | 6, _, _, _, h, _ => h
  | 7, _, _, _, h, _ => h
  | 8, _, _, _, h, _ => h
  | 9, _, _, _, ⟨p, q, h1, h2⟩, hb => ⟨p, q, h1, h2.below hb⟩
  | 10, _, _, _, h, _ => h
  | 11, _, _, _, h, _ => h
  | 12, _, _, _, ⟨p, q, h1, h2⟩, hb => ⟨p, q, h1, h2.below hb⟩
  | 13, _, _, _, h, _ => h
  | 14, _, _, _, h, _ => h
  | 15, _, _, _, ⟨p, q, r, s, t, u, h1, h2, h3, h4⟩, hb => ⟨p, q, r, s, t, u, h1, ⟨h2.1.below hb, h2.2⟩, h3.below hb, h4.below hb⟩
  | _ + 16, _, _, _, h, _ => h
set_option maxRecDepth 100000 in
set_option maxHeartbeats 4000000 in
theorem Literal_copy (x : TLt) (A : Option Addr) (c : Nat) (L : Option Addr) (d : Nat) (R : Option Addr) (f : Nat) (w : World) (hsz : x.atom.args.length ≤ 30000 ∧ cntE x.left ≤ 30000 ∧ cntE x.right ≤ 30000) (hV : LtV w x A L R) :
    Calls Tryz.prog 16 #[ltV x A c L d R f] w (GotLc w x) := by
  have mixed : Tryz.prog.follows .mixedOrders = true := by kernel_rfl
  have HV := Lib.hid hV
  have HSz := Lib.hid hsz
  have o1 : Own (w.alloc (.cells #[.int .i64 x.kind, .string x.atom.rel, .slice A x.atom.args.length c, .int .i64 x.op, .int .i64 x.left.op, .string x.left.t.v, .int .i64 x.left.t.k, .int .i64 x.left.t.n, .string x.left.t.s, .slice L x.left.kids.length d, .int .i64 x.right.op, .string x.right.t.v, .int .i64 x.right.t.k, .int .i64 x.right.t.n, .string x.right.t.s, .slice R x.right.kids.length f, .int .i64 x.pos] 63)) w.heap.size 63 [.int .i64 x.kind, .string x.atom.rel, .slice A x.atom.args.length c, .int .i64 x.op, .int .i64 x.left.op, .string x.left.t.v, .int .i64 x.left.t.k, .int .i64 x.left.t.n, .string x.left.t.s, .slice L x.left.kids.length d, .int .i64 x.right.op, .string x.right.t.v, .int .i64 x.right.t.k, .int .i64 x.right.t.n, .string x.right.t.s, .slice R x.right.kids.length f, .int .i64 x.pos] := heap_alloc_new _ _
  have o2 := heap_alloc_new (w.alloc (.cells #[.int .i64 x.kind, .string x.atom.rel, .slice A x.atom.args.length c, .int .i64 x.op, .int .i64 x.left.op, .string x.left.t.v, .int .i64 x.left.t.k, .int .i64 x.left.t.n, .string x.left.t.s, .slice L x.left.kids.length d, .int .i64 x.right.op, .string x.right.t.v, .int .i64 x.right.t.k, .int .i64 x.right.t.n, .string x.right.t.s, .slice R x.right.kids.length f, .int .i64 x.pos] 63)) (.cells #[.int .i64 0, .string noText, .slice none 0 0, .int .i64 0, .int .i64 0, .string noText, .int .i64 0, .int .i64 0, .string noText, .slice none 0 0, .int .i64 0, .string noText, .int .i64 0, .int .i64 0, .string noText, .slice none 0 0, .int .i64 0] 77)
  simp only [World.size_alloc] at o2
  have HO1 := Lib.hid (o1.alloc (.cells #[.int .i64 0, .string noText, .slice none 0 0, .int .i64 0, .int .i64 0, .string noText, .int .i64 0, .int .i64 0, .string noText, .slice none 0 0, .int .i64 0, .string noText, .int .i64 0, .int .i64 0, .string noText, .slice none 0 0, .int .i64 0] 77))
  have HO2 : Hid (Own ((w.alloc (.cells #[.int .i64 x.kind, .string x.atom.rel, .slice A x.atom.args.length c, .int .i64 x.op, .int .i64 x.left.op, .string x.left.t.v, .int .i64 x.left.t.k, .int .i64 x.left.t.n, .string x.left.t.s, .slice L x.left.kids.length d, .int .i64 x.right.op, .string x.right.t.v, .int .i64 x.right.t.k, .int .i64 x.right.t.n, .string x.right.t.s, .slice R x.right.kids.length f, .int .i64 x.pos] 63)).alloc (.cells #[.int .i64 0, .string noText, .slice none 0 0, .int .i64 0, .int .i64 0, .string noText, .int .i64 0, .int .i64 0, .string noText, .slice none 0 0, .int .i64 0, .string noText, .int .i64 0, .int .i64 0, .string noText, .slice none 0 0, .int .i64 0] 77)) (w.heap.size + 1) 77 [.int .i64 0, .string noText, .slice none 0 0, .int .i64 0, .int .i64 0, .string noText, .int .i64 0, .int .i64 0, .string noText, .slice none 0 0, .int .i64 0, .string noText, .int .i64 0, .int .i64 0, .string noText, .slice none 0 0, .int .i64 0]) := o2
  have HB0 : Hid (Below w.heap.size w ((w.alloc (.cells #[.int .i64 x.kind, .string x.atom.rel, .slice A x.atom.args.length c, .int .i64 x.op, .int .i64 x.left.op, .string x.left.t.v, .int .i64 x.left.t.k, .int .i64 x.left.t.n, .string x.left.t.s, .slice L x.left.kids.length d, .int .i64 x.right.op, .string x.right.t.v, .int .i64 x.right.t.k, .int .i64 x.right.t.n, .string x.right.t.s, .slice R x.right.kids.length f, .int .i64 x.pos] 63)).alloc (.cells #[.int .i64 0, .string noText, .slice none 0 0, .int .i64 0, .int .i64 0, .string noText, .int .i64 0, .int .i64 0, .string noText, .slice none 0 0, .int .i64 0, .string noText, .int .i64 0, .int .i64 0, .string noText, .slice none 0 0, .int .i64 0] 77))) := ((Below.refl _ _).alloc (Nat.le_refl _) _).alloc (by simp) _
  have HS0 : Hid (((w.alloc (.cells #[.int .i64 x.kind, .string x.atom.rel, .slice A x.atom.args.length c, .int .i64 x.op, .int .i64 x.left.op, .string x.left.t.v, .int .i64 x.left.t.k, .int .i64 x.left.t.n, .string x.left.t.s, .slice L x.left.kids.length d, .int .i64 x.right.op, .string x.right.t.v, .int .i64 x.right.t.k, .int .i64 x.right.t.n, .string x.right.t.s, .slice R x.right.kids.length f, .int .i64 x.pos] 63)).alloc (.cells #[.int .i64 0, .string noText, .slice none 0 0, .int .i64 0, .int .i64 0, .string noText, .int .i64 0, .int .i64 0, .string noText, .slice none 0 0, .int .i64 0, .string noText, .int .i64 0, .int .i64 0, .string noText, .slice none 0 0, .int .i64 0] 77)).heap.size = w.heap.size + 2) := by show _ = _; simp
  clear o1 o2 hV hsz
  unfold ltV
  go_enter Tryz.func16, Tryz.ntmps16
  go_wp2_with fail
  obtain ⟨W0, hW0⟩ : ∃ W0, W0 = ((w.alloc (.cells #[.int .i64 x.kind, .string x.atom.rel, .slice A x.atom.args.length c, .int .i64 x.op, .int .i64 x.left.op, .string x.left.t.v, .int .i64 x.left.t.k, .int .i64 x.left.t.n, .string x.left.t.s, .slice L x.left.kids.length d, .int .i64 x.right.op, .string x.right.t.v, .int .i64 x.right.t.k, .int .i64 x.right.t.n, .string x.right.t.s, .slice R x.right.kids.length f, .int .i64 x.pos] 63)).alloc (.cells #[.int .i64 0, .string noText, .slice none 0 0, .int .i64 0, .int .i64 0, .string noText, .int .i64 0, .int .i64 0, .string noText, .slice none 0 0, .int .i64 0, .string noText, .int .i64 0, .int .i64 0, .string noText, .slice none 0 0, .int .i64 0] 77)) := ⟨_, rfl⟩
  rw [← hW0] at HO1 HO2 HB0 HS0
  change (Code.region _ _ _).wp _ _ _ ((w.alloc (.cells #[.int .i64 x.kind, .string x.atom.rel, .slice A x.atom.args.length c, .int .i64 x.op, .int .i64 x.left.op, .string x.left.t.v, .int .i64 x.left.t.k, .int .i64 x.left.t.n, .string x.left.t.s, .slice L x.left.kids.length d, .int .i64 x.right.op, .string x.right.t.v, .int .i64 x.right.t.k, .int .i64 x.right.t.n, .string x.right.t.s, .slice R x.right.kids.length f, .int .i64 x.pos] 63)).alloc (.cells #[.int .i64 0, .string ⟨#[]⟩, .slice none 0 0, .int .i64 0, .int .i64 0, .string ⟨#[]⟩, .int .i64 0, .int .i64 0, .string ⟨#[]⟩, .slice none 0 0, .int .i64 0, .string ⟨#[]⟩, .int .i64 0, .int .i64 0, .string ⟨#[]⟩, .slice none 0 0, .int .i64 0] 77)) at ⊢
  rw [show ((w.alloc (.cells #[.int .i64 x.kind, .string x.atom.rel, .slice A x.atom.args.length c, .int .i64 x.op, .int .i64 x.left.op, .string x.left.t.v, .int .i64 x.left.t.k, .int .i64 x.left.t.n, .string x.left.t.s, .slice L x.left.kids.length d, .int .i64 x.right.op, .string x.right.t.v, .int .i64 x.right.t.k, .int .i64 x.right.t.n, .string x.right.t.s, .slice R x.right.kids.length f, .int .i64 x.pos] 63)).alloc (.cells #[.int .i64 0, .string ⟨#[]⟩, .slice none 0 0, .int .i64 0, .int .i64 0, .string ⟨#[]⟩, .int .i64 0, .int .i64 0, .string ⟨#[]⟩, .slice none 0 0, .int .i64 0, .string ⟨#[]⟩, .int .i64 0, .int .i64 0, .string ⟨#[]⟩, .slice none 0 0, .int .i64 0] 77)) = W0 from hW0.symm]
  obtain ⟨b1, hb1⟩ : ∃ b, b = w.heap.size := ⟨_, rfl⟩
  obtain ⟨b2, hb2⟩ : ∃ b, b = w.heap.size + 1 := ⟨_, rfl⟩
  rw [← hb2] at HO2 ⊢
  rw [← hb1] at HO1
  rw [show (Value.pointer (some ⟨w.heap.size, 0, none⟩)) = .pointer (some ⟨b1, 0, none⟩) by rw [hb1]]
  have HB1 := Lib.hid hb1
  have HB2 := Lib.hid hb2
  clear hW0 hb1 hb2
  rename_i K1 hK1
  have H1 : Hid (Value.pointer (some ⟨b1, 0, none⟩) = .pointer (some ⟨b1, 0, none⟩)) := rfl
  refine wp_region_makes (m := 16) (D := lcD) (F := LcF x A c L d R f (w.heap.size + 2) b1) mixed rfl ?hac ?hdst ?hinj ?hlt ?hg ?hlast LcF.keep ?hstep ?hfin
  case hac => exact ac_of (by kernel_rfl)
  case hdst => exact dst_of (by kernel_rfl)
  case hinj => exact inj_of (by kernel_rfl)
  case hlt =>
    intro i hi
    exact lt_of (n := 19) (by kernel_rfl) i hi
  case hg => exact guard_of (by kernel_rfl)
  case hlast => exact last_of (by kernel_rfl)
  case hstep =>
    intro i o hi ho a w1 hfr hlow hdep K hK
    have hO1 := HO1.out.below hlow
    have hn0 : w.heap.size + 2 ≤ w1.heap.size := by have := hlow.size; have := HS0.out; omega
    have hV1 := HV.out.below (HB0.out.trans (hlow.mono HB0.out.size))
    match i, hi with
    | 0, _ =>
      simp only [List.getElem?_toArray, List.getElem?_cons_zero, List.getElem?_cons_succ, Option.some.injEq] at ho
      subst ho
      have h1 : a.tmps.getD 1 undef = .pointer (some ⟨b1, 0, none⟩) := (hfr 1 (by decide)).trans H1.out
      refine mk_val (v := .pointer (some ⟨b1, 0, none⟩)) (w' := w1) ?_ (hK _ _ (Below.refl _ _) rfl)
      simp only [execOp, Act.eval, h1]
      kernel_rfl
    | 1, _ =>
      simp only [List.getElem?_toArray, List.getElem?_cons_zero, List.getElem?_cons_succ, Option.some.injEq] at ho
      subst ho
      have h1 : a.tmps.getD 3 undef = .pointer (some ⟨b1, 0, none⟩) := hdep ⟨0, .data⟩ (by simp) rfl
      refine mk_val (v := .int .i64 x.kind) (w' := w1) ?_ (hK _ _ (Below.refl _ _) rfl)
      simp only [execOp, Act.eval, h1, Instr.loadAt, Instr.sureAddr, Sem.run_bind, Sem.run_pure, Result.andThen_ok]
      rw [run_loadVar_one w1 b1 0 53 (.int .i64 x.kind) _ (hO1.cell 0) Tryz.underlying53 rfl]
      rfl
    | 2, _ =>
      simp only [List.getElem?_toArray, List.getElem?_cons_zero, List.getElem?_cons_succ, Option.some.injEq] at ho
      subst ho
      have h1 : a.tmps.getD 1 undef = .pointer (some ⟨b1, 0, none⟩) := (hfr 1 (by decide)).trans H1.out
      refine mk_val (v := .pointer (some ⟨b1, 1, none⟩)) (w' := w1) ?_ (hK _ _ (Below.refl _ _) rfl)
      simp only [execOp, Act.eval, h1]
      kernel_rfl
    | 3, _ =>
      simp only [List.getElem?_toArray, List.getElem?_cons_zero, List.getElem?_cons_succ, Option.some.injEq] at ho
      subst ho
      have h1 : a.tmps.getD 5 undef = .pointer (some ⟨b1, 1, none⟩) := hdep ⟨2, .data⟩ (by simp) rfl
      refine mk_val (v := .agg #[.string x.atom.rel, .slice A x.atom.args.length c]) (w' := w1) ?_ (hK _ _ (Below.refl _ _) rfl)
      simp only [execOp, Act.eval, h1, Instr.loadAt, Instr.sureAddr, Sem.run_bind, Sem.run_pure, Result.andThen_ok]
      rw [run_loadVar_at w1 b1 1 49 [.string x.atom.rel, .slice A x.atom.args.length c] _ ?_ Tryz.underlying49 rfl infoTam]
      · rfl
      · intro j v hv
        match j, hv with
        | 0, hv => cases hv; exact hO1.cell 1
        | 1, hv => cases hv; exact hO1.cell 2
        | n + 2, hv => simp at hv
    | 4, _ =>
      simp only [List.getElem?_toArray, List.getElem?_cons_zero, List.getElem?_cons_succ, Option.some.injEq] at ho
      subst ho
      have h1 : a.tmps.getD 6 undef = .agg #[.string x.atom.rel, .slice A x.atom.args.length c] := hdep ⟨3, .data⟩ (by simp) rfl
      refine mk_call (f := 45) (args := #[.agg #[.string x.atom.rel, .slice A x.atom.args.length c]]) ?_ ((Atom_copy x.atom A c w1 HSz.out.1 hV1.am).mono ?_)
      · simp only [execOp, resolve, Act.eval, List.map_toArray, List.map_cons, List.map_nil, h1]
        kernel_rfl
      · rintro e w' ⟨A2, c2, rfl, hE, hA, hb⟩
        exact ⟨_, rfl, hK _ _ hb ⟨A2, c2, rfl, hE, fun ad had => Nat.le_trans hn0 (hA ad had)⟩⟩
    | 5, _ =>
      simp only [List.getElem?_toArray, List.getElem?_cons_zero, List.getElem?_cons_succ, Option.some.injEq] at ho
      subst ho
      have h1 : a.tmps.getD 1 undef = .pointer (some ⟨b1, 0, none⟩) := (hfr 1 (by decide)).trans H1.out
      refine mk_val (v := .pointer (some ⟨b1, 3, none⟩)) (w' := w1) ?_ (hK _ _ (Below.refl _ _) rfl)
      simp only [execOp, Act.eval, h1]
      kernel_rfl
    | 6, _ =>
      simp only [List.getElem?_toArray, List.getElem?_cons_zero, List.getElem?_cons_succ, Option.some.injEq] at ho
      subst ho
      have h1 : a.tmps.getD 8 undef = .pointer (some ⟨b1, 3, none⟩) := hdep ⟨5, .data⟩ (by simp) rfl
      refine mk_val (v := .int .i64 x.op) (w' := w1) ?_ (hK _ _ (Below.refl _ _) rfl)
      simp only [execOp, Act.eval, h1, Instr.loadAt, Instr.sureAddr, Sem.run_bind, Sem.run_pure, Result.andThen_ok]
      rw [run_loadVar_one w1 b1 3 3 (.int .i64 x.op) _ (hO1.cell 3) Tryz.underlying3 rfl]
      rfl
    | 7, _ =>
      simp only [List.getElem?_toArray, List.getElem?_cons_zero, List.getElem?_cons_succ, Option.some.injEq] at ho
      subst ho
      have h1 : a.tmps.getD 1 undef = .pointer (some ⟨b1, 0, none⟩) := (hfr 1 (by decide)).trans H1.out
      refine mk_val (v := .pointer (some ⟨b1, 4, none⟩)) (w' := w1) ?_ (hK _ _ (Below.refl _ _) rfl)
      simp only [execOp, Act.eval, h1]
      kernel_rfl
    | 8, _ =>
      simp only [List.getElem?_toArray, List.getElem?_cons_zero, List.getElem?_cons_succ, Option.some.injEq] at ho
      subst ho
      have h1 : a.tmps.getD 10 undef = .pointer (some ⟨b1, 4, none⟩) := hdep ⟨7, .data⟩ (by simp) rfl
      refine mk_val (v := .agg #[.int .i64 x.left.op, .string x.left.t.v, .int .i64 x.left.t.k, .int .i64 x.left.t.n, .string x.left.t.s, .slice L x.left.kids.length d]) (w' := w1) ?_ (hK _ _ (Below.refl _ _) rfl)
      simp only [execOp, Act.eval, h1, Instr.loadAt, Instr.sureAddr, Sem.run_bind, Sem.run_pure, Result.andThen_ok]
      rw [run_loadVar_at w1 b1 4 61 [.int .i64 x.left.op, .string x.left.t.v, .int .i64 x.left.t.k, .int .i64 x.left.t.n, .string x.left.t.s, .slice L x.left.kids.length d] _ ?_ Tryz.underlying61 rfl infoTex]
      · rfl
      · intro j v hv
        match j, hv with
        | 0, hv => cases hv; exact hO1.cell 4
        | 1, hv => cases hv; exact hO1.cell 5
        | 2, hv => cases hv; exact hO1.cell 6
        | 3, hv => cases hv; exact hO1.cell 7
        | 4, hv => cases hv; exact hO1.cell 8
        | 5, hv => cases hv; exact hO1.cell 9
        | n + 6, hv => simp at hv
    | 9, _ =>
      simp only [List.getElem?_toArray, List.getElem?_cons_zero, List.getElem?_cons_succ, Option.some.injEq] at ho
      subst ho
      have h1 : a.tmps.getD 11 undef = .agg #[.int .i64 x.left.op, .string x.left.t.v, .int .i64 x.left.t.k, .int .i64 x.left.t.n, .string x.left.t.s, .slice L x.left.kids.length d] := hdep ⟨8, .data⟩ (by simp) rfl
      refine mk_call (f := 17) (args := #[.agg #[.int .i64 x.left.op, .string x.left.t.v, .int .i64 x.left.t.k, .int .i64 x.left.t.n, .string x.left.t.s, .slice L x.left.kids.length d]]) ?_ ((exp_copy (cntE x.left) x.left L d w1 (Nat.le_refl _) HSz.out.2.1 hV1.left).mono ?_)
      · simp only [execOp, resolve, Act.eval, List.map_toArray, List.map_cons, List.map_nil, h1]
        kernel_rfl
      · rintro e w' ⟨A2, c2, rfl, hE, hb⟩
        exact ⟨_, rfl, hK _ _ hb ⟨A2, c2, rfl, (exp_stab hE).more (fun k _ h => Nat.le_trans hn0 h)⟩⟩
    | 10, _ =>
      simp only [List.getElem?_toArray, List.getElem?_cons_zero, List.getElem?_cons_succ, Option.some.injEq] at ho
      subst ho
      have h1 : a.tmps.getD 1 undef = .pointer (some ⟨b1, 0, none⟩) := (hfr 1 (by decide)).trans H1.out
      refine mk_val (v := .pointer (some ⟨b1, 10, none⟩)) (w' := w1) ?_ (hK _ _ (Below.refl _ _) rfl)
      simp only [execOp, Act.eval, h1]
      kernel_rfl
    | 11, _ =>
      simp only [List.getElem?_toArray, List.getElem?_cons_zero, List.getElem?_cons_succ, Option.some.injEq] at ho
      subst ho
      have h1 : a.tmps.getD 13 undef = .pointer (some ⟨b1, 10, none⟩) := hdep ⟨10, .data⟩ (by simp) rfl
      refine mk_val (v := .agg #[.int .i64 x.right.op, .string x.right.t.v, .int .i64 x.right.t.k, .int .i64 x.right.t.n, .string x.right.t.s, .slice R x.right.kids.length f]) (w' := w1) ?_ (hK _ _ (Below.refl _ _) rfl)
      simp only [execOp, Act.eval, h1, Instr.loadAt, Instr.sureAddr, Sem.run_bind, Sem.run_pure, Result.andThen_ok]
      rw [run_loadVar_at w1 b1 10 61 [.int .i64 x.right.op, .string x.right.t.v, .int .i64 x.right.t.k, .int .i64 x.right.t.n, .string x.right.t.s, .slice R x.right.kids.length f] _ ?_ Tryz.underlying61 rfl infoTex]
      · rfl
      · intro j v hv
        match j, hv with
        | 0, hv => cases hv; exact hO1.cell 10
        | 1, hv => cases hv; exact hO1.cell 11
        | 2, hv => cases hv; exact hO1.cell 12
        | 3, hv => cases hv; exact hO1.cell 13
        | 4, hv => cases hv; exact hO1.cell 14
        | 5, hv => cases hv; exact hO1.cell 15
        | n + 6, hv => simp at hv
    | 12, _ =>
      simp only [List.getElem?_toArray, List.getElem?_cons_zero, List.getElem?_cons_succ, Option.some.injEq] at ho
      subst ho
      have h1 : a.tmps.getD 14 undef = .agg #[.int .i64 x.right.op, .string x.right.t.v, .int .i64 x.right.t.k, .int .i64 x.right.t.n, .string x.right.t.s, .slice R x.right.kids.length f] := hdep ⟨11, .data⟩ (by simp) rfl
      refine mk_call (f := 17) (args := #[.agg #[.int .i64 x.right.op, .string x.right.t.v, .int .i64 x.right.t.k, .int .i64 x.right.t.n, .string x.right.t.s, .slice R x.right.kids.length f]]) ?_ ((exp_copy (cntE x.right) x.right R f w1 (Nat.le_refl _) HSz.out.2.2 hV1.right).mono ?_)
      · simp only [execOp, resolve, Act.eval, List.map_toArray, List.map_cons, List.map_nil, h1]
        kernel_rfl
      · rintro e w' ⟨A2, c2, rfl, hE, hb⟩
        exact ⟨_, rfl, hK _ _ hb ⟨A2, c2, rfl, (exp_stab hE).more (fun k _ h => Nat.le_trans hn0 h)⟩⟩
    | 13, _ =>
      simp only [List.getElem?_toArray, List.getElem?_cons_zero, List.getElem?_cons_succ, Option.some.injEq] at ho
      subst ho
      have h1 : a.tmps.getD 1 undef = .pointer (some ⟨b1, 0, none⟩) := (hfr 1 (by decide)).trans H1.out
      refine mk_val (v := .pointer (some ⟨b1, 16, none⟩)) (w' := w1) ?_ (hK _ _ (Below.refl _ _) rfl)
      simp only [execOp, Act.eval, h1]
      kernel_rfl
    | 14, _ =>
      simp only [List.getElem?_toArray, List.getElem?_cons_zero, List.getElem?_cons_succ, Option.some.injEq] at ho
      subst ho
      have h1 : a.tmps.getD 16 undef = .pointer (some ⟨b1, 16, none⟩) := hdep ⟨13, .data⟩ (by simp) rfl
      refine mk_val (v := .int .i64 x.pos) (w' := w1) ?_ (hK _ _ (Below.refl _ _) rfl)
      simp only [execOp, Act.eval, h1, Instr.loadAt, Instr.sureAddr, Sem.run_bind, Sem.run_pure, Result.andThen_ok]
      rw [run_loadVar_one w1 b1 16 3 (.int .i64 x.pos) _ (hO1.cell 16) Tryz.underlying3 rfl]
      rfl
    | 15, _ =>
      simp only [List.getElem?_toArray, List.getElem?_cons_zero, List.getElem?_cons_succ, Option.some.injEq] at ho
      subst ho
      have h0 : a.tmps.getD 4 undef = .int .i64 x.kind := hdep ⟨1, .data⟩ (by simp) rfl
      obtain ⟨A2, c2, h1, s1⟩ : LcF x A c L d R f (w.heap.size + 2) b1 4 (a.tmps.getD 7 undef) w1 := hdep ⟨4, .data⟩ (by simp) rfl
      have h2 : a.tmps.getD 9 undef = .int .i64 x.op := hdep ⟨6, .data⟩ (by simp) rfl
      obtain ⟨L2, d2, h3, s3⟩ : LcF x A c L d R f (w.heap.size + 2) b1 9 (a.tmps.getD 12 undef) w1 := hdep ⟨9, .data⟩ (by simp) rfl
      obtain ⟨R2, f2, h4, s4⟩ : LcF x A c L d R f (w.heap.size + 2) b1 12 (a.tmps.getD 15 undef) w1 := hdep ⟨12, .data⟩ (by simp) rfl
      have h5 : a.tmps.getD 17 undef = .int .i64 x.pos := hdep ⟨14, .data⟩ (by simp) rfl
      refine mk_val (v := .agg #[.int .i64 x.kind, .string x.atom.rel, .slice A2 x.atom.args.length c2, .int .i64 x.op, .int .i64 x.left.op, .string x.left.t.v, .int .i64 x.left.t.k, .int .i64 x.left.t.n, .string x.left.t.s, .slice L2 x.left.kids.length d2, .int .i64 x.right.op, .string x.right.t.v, .int .i64 x.right.t.k, .int .i64 x.right.t.n, .string x.right.t.s, .slice R2 x.right.kids.length f2, .int .i64 x.pos]) (w' := w1) ?_ (hK _ _ (Below.refl _ _) ⟨A2, c2, L2, d2, R2, f2, rfl, s1, s3, s4⟩)
      simp only [execOp, Act.eval, List.map_toArray, List.map_cons, List.map_nil, h0, h1, h2, h3, h4, h5]
      kernel_rfl
    | n + 16, h => omega
  case hfin =>
    intro o ho a w1 hdf hsz hfr hlow hall
    simp only [List.getElem?_toArray, List.getElem?_cons_zero, List.getElem?_cons_succ, Option.some.injEq] at ho
    subst ho
    obtain ⟨A2, c2, L2, d2, R2, f2, h18, s1, s3, s4⟩ : LcF x A c L d R f (w.heap.size + 2) b1 15 (a.tmps.getD 18 undef) w1 := hall 15 (by decide)
    have h2 : a.tmps.getD 2 undef = .pointer (some ⟨b2, 0, none⟩) := (hfr 2 (by decide)).trans rfl
    have hO2 := HO2.out.below hlow
    refine wp_store_row 77 (.tmp 2) (.tmp 18) rfl b2 #[.int .i64 x.kind, .string x.atom.rel, .slice A2 x.atom.args.length c2, .int .i64 x.op, .int .i64 x.left.op, .string x.left.t.v, .int .i64 x.left.t.k, .int .i64 x.left.t.n, .string x.left.t.s, .slice L2 x.left.kids.length d2, .int .i64 x.right.op, .string x.right.t.v, .int .i64 x.right.t.k, .int .i64 x.right.t.n, .string x.right.t.s, .slice R2 x.right.kids.length f2, .int .i64 x.pos] h2 h18 77 #[.int .i64 0, .string noText, .slice none 0 0, .int .i64 0, .int .i64 0, .string noText, .int .i64 0, .int .i64 0, .string noText, .slice none 0 0, .int .i64 0, .string noText, .int .i64 0, .int .i64 0, .string noText, .slice none 0 0, .int .i64 0] hO2 infoRlt rfl (by simp [Value.oneCell']) ?_
    have hrow := setRow_heap w1 b2 _ #[.int .i64 x.kind, .string x.atom.rel, .slice A2 x.atom.args.length c2, .int .i64 x.op, .int .i64 x.left.op, .string x.left.t.v, .int .i64 x.left.t.k, .int .i64 x.left.t.n, .string x.left.t.s, .slice L2 x.left.kids.length d2, .int .i64 x.right.op, .string x.right.t.v, .int .i64 x.right.t.k, .int .i64 x.right.t.n, .string x.right.t.s, .slice R2 x.right.kids.length f2, .int .i64 x.pos] _ _ hO2
    have hkr : Kept [b2] w1 (w1.setRow b2 #[.int .i64 x.kind, .string x.atom.rel, .slice A2 x.atom.args.length c2, .int .i64 x.op, .int .i64 x.left.op, .string x.left.t.v, .int .i64 x.left.t.k, .int .i64 x.left.t.n, .string x.left.t.s, .slice L2 x.left.kids.length d2, .int .i64 x.right.op, .string x.right.t.v, .int .i64 x.right.t.k, .int .i64 x.right.t.n, .string x.right.t.s, .slice R2 x.right.kids.length f2, .int .i64 x.pos]) := ⟨rfl, rfl, rfl, by simp, fun k _ hn => setRow_other w1 b2 k _ (by simpa using hn)⟩
    have hbel : Below w.heap.size w (w1.setRow b2 #[.int .i64 x.kind, .string x.atom.rel, .slice A2 x.atom.args.length c2, .int .i64 x.op, .int .i64 x.left.op, .string x.left.t.v, .int .i64 x.left.t.k, .int .i64 x.left.t.n, .string x.left.t.s, .slice L2 x.left.kids.length d2, .int .i64 x.right.op, .string x.right.t.v, .int .i64 x.right.t.k, .int .i64 x.right.t.n, .string x.right.t.s, .slice R2 x.right.kids.length f2, .int .i64 x.pos]) := (HB0.out.trans (hlow.mono HB0.out.size)).trans (hkr.below (by have := hlow.size; have := HS0.out; omega) (fun k hk => by simp only [List.mem_singleton] at hk; have := HB2.out; omega))
    have hst : Stab (w1.setRow b2 #[.int .i64 x.kind, .string x.atom.rel, .slice A2 x.atom.args.length c2, .int .i64 x.op, .int .i64 x.left.op, .string x.left.t.v, .int .i64 x.left.t.k, .int .i64 x.left.t.n, .string x.left.t.s, .slice L2 x.left.kids.length d2, .int .i64 x.right.op, .string x.right.t.v, .int .i64 x.right.t.k, .int .i64 x.right.t.n, .string x.right.t.s, .slice R2 x.right.kids.length f2, .int .i64 x.pos]) (fun k => w.heap.size ≤ k) (fun W => LtV W x A2 L2 R2) :=
      ((((am_stab s1.1 s1.2).and (s3.and s4)).keep (P' := fun k => w.heap.size ≤ k) hkr.size (fun k hkw hp => hkr.block k hkw (by simp only [List.mem_singleton]; have := HB2.out; omega)) (fun k _ hp => by omega)).imp (fun W h => ⟨h.1, h.2.1, h.2.2, HV.out.lo, HV.out.hi⟩))
    have HST := Lib.hid hst
    have HBL := Lib.hid hbel
    have HRW := Lib.hid hrow
    generalize w1.setRow b2 #[.int .i64 x.kind, .string x.atom.rel, .slice A2 x.atom.args.length c2, .int .i64 x.op, .int .i64 x.left.op, .string x.left.t.v, .int .i64 x.left.t.k, .int .i64 x.left.t.n, .string x.left.t.s, .slice L2 x.left.kids.length d2, .int .i64 x.right.op, .string x.right.t.v, .int .i64 x.right.t.k, .int .i64 x.right.t.n, .string x.right.t.s, .slice R2 x.right.kids.length f2, .int .i64 x.pos] = W2 at HST HBL HRW ⊢
    refine hK1 _ _ ?_
    clear hK1 hst hbel hrow hkr hO2 hlow hall hfr h18 s1 s3 s4
    obtain ⟨⟨l⟩, df⟩ := a
    simp only [Act.put] at hdf hsz h2 ⊢
    subst hdf
    change l.length = 19 at hsz
    obtain ⟨t0, l0, rfl, hz0⟩ := cons_of hsz
    obtain ⟨t1, l1, rfl, hz1⟩ := cons_of hz0
    obtain ⟨t2, l2, rfl, hz2⟩ := cons_of hz1
    obtain ⟨t3, l3, rfl, hz3⟩ := cons_of hz2
    obtain ⟨t4, l4, rfl, hz4⟩ := cons_of hz3
    obtain ⟨t5, l5, rfl, hz5⟩ := cons_of hz4
    obtain ⟨t6, l6, rfl, hz6⟩ := cons_of hz5
    obtain ⟨t7, l7, rfl, hz7⟩ := cons_of hz6
    obtain ⟨t8, l8, rfl, hz8⟩ := cons_of hz7
    obtain ⟨t9, l9, rfl, hz9⟩ := cons_of hz8
    obtain ⟨t10, l10, rfl, hz10⟩ := cons_of hz9
    obtain ⟨t11, l11, rfl, hz11⟩ := cons_of hz10
    obtain ⟨t12, l12, rfl, hz12⟩ := cons_of hz11
    obtain ⟨t13, l13, rfl, hz13⟩ := cons_of hz12
    obtain ⟨t14, l14, rfl, hz14⟩ := cons_of hz13
    obtain ⟨t15, l15, rfl, hz15⟩ := cons_of hz14
    obtain ⟨t16, l16, rfl, hz16⟩ := cons_of hz15
    obtain ⟨t17, l17, rfl, hz17⟩ := cons_of hz16
    obtain ⟨t18, l18, rfl, hz18⟩ := cons_of hz17
    obtain rfl : l18 = [] := List.eq_nil_of_length_eq_zero hz18
    clear hsz hz0 hz1 hz2 hz3 hz4 hz5 hz6 hz7 hz8 hz9 hz10 hz11 hz12 hz13 hz14 hz15 hz16 hz17 hz18
    have h2' : t2 = .pointer (some ⟨b2, 0, none⟩) := h2
    clear h2
    subst h2'
    go_wp2_with fail
    refine bodyPost_ret (v := .agg #[.int .i64 x.kind, .string x.atom.rel, .slice A2 x.atom.args.length c2, .int .i64 x.op, .int .i64 x.left.op, .string x.left.t.v, .int .i64 x.left.t.k, .int .i64 x.left.t.n, .string x.left.t.s, .slice L2 x.left.kids.length d2, .int .i64 x.right.op, .string x.right.t.v, .int .i64 x.right.t.k, .int .i64 x.right.t.n, .string x.right.t.s, .slice R2 x.right.kids.length f2, .int .i64 x.pos]) (results_cell_row (P := Tryz.prog) rfl _ _ b2 77 _ (0, 0) _ rfl HRW.out Tryz.underlying77 rfl infoRlt) rfl ?_
    exact ⟨A2, c2, L2, d2, R2, f2, rfl, HST.out, HBL.out⟩
end Go.Proofs.YtikohamfnnlhcaaGreatDoor
