/- The law's copy of a literal in the document's form. Conditions: at most 30,000 nodes and terms. The document's literals, rules and programs: which rules are right. Conditions: texts of at most 2^47 bytes. Package term's Same: lists, declarations, atoms, expressions, literals, rules, programs. Conditions: none. -/
import Derived.Test.YtlfakhjcpdkaiaaGreatDoorTermCq
import Derived.Test.YtlfakhjcpdkaiaaGreatDoorTermTb
import Derived.Test.YtlfakhjcpdkaiaaGreatDoorTermW
import Derived.Test.YtlfakhjcpdkaiaaGreatDoorTermK
set_option linter.unusedVariables false
set_option linter.unusedSimpArgs false
namespace Go.Proofs.YtlfakhjcpdkaiaaGreatDoor
open Go.RowKit Go.Deep Go.Shelf

theorem run_loadVar_one {P : Program} (w : World) (b p : Nat) (ty : TypeId) (v : Value) (d : TypeDesc) (hc : w.cell? ⟨b, p, none⟩ = some v) (hu : P.underlying ty = some d) (hd : (match d with | .struct _ | .array _ _ => true | _ => false) = false) :
    (loadVar ty ⟨b, p, none⟩).run P w = .ok v w := by
  have hagg : (isAgg ty).run P w = .ok false w := by
    unfold isAgg
    rw [Sem.run_bind, run_underlying hu w]
    cases d <;> simp_all
  simp [loadVar, Sem.run_bind, hagg, hc]
theorem infoTam : (Tryz.prog.info? 44).map (·.size) = some 2 := by kernel_rfl
theorem infoTex : (Tryz.prog.info? 48).map (·.size) = some 6 := by kernel_rfl
theorem infoRlt : (Tryz.prog.info? 96).map (·.size) = some 17 := by kernel_rfl
/-- an expression's copy, told so. -/
theorem exp_stab {w0 w : World} {e : TEx} {A : Option Addr} (h : ExVP w (fun k => w0.heap.size ≤ k) e A) : Stab w (fun k => w0.heap.size ≤ k) (fun W => ExV W e A) := fun w' hs hk => (h.keep (P' := fun k => w0.heap.size ≤ k) hk hs (fun _ _ h => h)).exV
/-- a literal's copy. -/
def GotL (w : World) (x : TLt) (r : Ending) (w' : World) : Prop := ∃ A c L d R f, r = .returned (ltV x A c L d R f) ∧ Stab w' (fun k => w.heap.size ≤ k) (fun W => LtV W x A L R) ∧ Below w.heap.size w w'
def lcD (k : Nat) : Nat := ([3, 4, 5, 6, 7, 8, 9, 10, 11, 12, 13, 14, 15, 16, 17, 18] : List Nat).getD k 0
def LcF (x : TLt) (A : Option Addr) (c : Nat) (L : Option Addr) (d : Nat) (R : Option Addr) (f n0 b1 : Nat) : Nat → Value → World → Prop
  | 0, v, _ => v = .pointer (some ⟨b1, 0, none⟩)
  | 1, v, _ => v = .int .i64 x.kind
  | 2, v, _ => v = .pointer (some ⟨b1, 1, none⟩)
  | 3, v, _ => v = .agg #[.string x.atom.rel, .slice A x.atom.args.length c]
  | 4, v, W => ∃ A2 c2, v = .agg #[.string x.atom.rel, .slice A2 x.atom.args.length c2] ∧ AmV W x.atom A2 ∧ ∀ ad, A2 = some ad → n0 ≤ ad.block
  | 5, v, _ => v = .pointer (some ⟨b1, 3, none⟩)
  | 6, v, _ => v = .int .i64 x.op
  | 7, v, _ => v = .pointer (some ⟨b1, 4, none⟩)
  | 8, v, _ => v = .agg #[.int .i64 x.left.op, .string x.left.t.v, .int .i64 x.left.t.k, .int .i64 x.left.t.n, .string x.left.t.s, .slice L x.left.kids.length d]
  | 9, v, W => ∃ A2 c2, v = .agg #[.int .i64 x.left.op, .string x.left.t.v, .int .i64 x.left.t.k, .int .i64 x.left.t.n, .string x.left.t.s, .slice A2 x.left.kids.length c2] ∧ Stab W (fun k => n0 ≤ k) (fun W => ExV W x.left A2)
  | 10, v, _ => v = .pointer (some ⟨b1, 10, none⟩)
  | 11, v, _ => v = .agg #[.int .i64 x.right.op, .string x.right.t.v, .int .i64 x.right.t.k, .int .i64 x.right.t.n, .string x.right.t.s, .slice R x.right.kids.length f]
  | 12, v, W => ∃ A2 c2, v = .agg #[.int .i64 x.right.op, .string x.right.t.v, .int .i64 x.right.t.k, .int .i64 x.right.t.n, .string x.right.t.s, .slice A2 x.right.kids.length c2] ∧ Stab W (fun k => n0 ≤ k) (fun W => ExV W x.right A2)
  | 13, v, _ => v = .pointer (some ⟨b1, 16, none⟩)
  | 14, v, _ => v = .int .i64 x.pos
  | 15, v, W => ∃ A2 c2 L2 d2 R2 f2, v = .agg #[.int .i64 x.kind, .string x.atom.rel, .slice A2 x.atom.args.length c2, .int .i64 x.op, .int .i64 x.left.op, .string x.left.t.v, .int .i64 x.left.t.k, .int .i64 x.left.t.n, .string x.left.t.s, .slice L2 x.left.kids.length d2, .int .i64 x.right.op, .string x.right.t.v, .int .i64 x.right.t.k, .int .i64 x.right.t.n, .string x.right.t.s, .slice R2 x.right.kids.length f2, .int .i64 x.pos] ∧ (AmV W x.atom A2 ∧ ∀ ad, A2 = some ad → n0 ≤ ad.block) ∧ Stab W (fun k => n0 ≤ k) (fun W => ExV W x.left L2) ∧ Stab W (fun k => n0 ≤ k) (fun W => ExV W x.right R2)
  | _, _, _ => False
theorem LcF.keep {x : TLt} {A : Option Addr} {c : Nat} {L : Option Addr} {d : Nat} {R : Option Addr} {f n0 b1 : Nat} : ∀ k v X Y, LcF x A c L d R f n0 b1 k v X → Below X.heap.size X Y → LcF x A c L d R f n0 b1 k v Y
  | 0, _, _, _, h, _ => h
  | 1, _, _, _, h, _ => h
  | 2, _, _, _, h, _ => h
  | 3, _, _, _, h, _ => h
  | 4, _, _, _, ⟨p, q, h1, h2, h3⟩, hb => ⟨p, q, h1, h2.below hb, h3⟩
  | 5, _, _, _, h, _ => h
  | 6, _, _, _, h, _ => h
  | 7, _, _, _, h, _ => h
  | 8, _, _, _, h, _ => h
  | 9, _, _, _, ⟨p, q, h1, h2⟩, hb => ⟨p, q, h1, h2.below hb⟩
  | 10, _, _, _, h, _ => h
  | 11, _, _, _, h, _ => h
  | 12, _, _, _, ⟨p, q, h1, h2⟩, hb => ⟨p, q, h1, h2.below hb⟩
  | 13, _, _, _, h, _ => h
  | 14, _, _, _, h, _ => h
  | 15, _, _, _, ⟨p, q, r, s, t, u, h1, h2, h3, h4⟩, hb => ⟨p, q, r, s, t, u, h1, ⟨h2.1.below hb, h2.2⟩, h3.below hb, h4.below hb⟩
  | _ + 16, _, _, _, h, _ => h
set_option maxRecDepth 100000 in
set_option maxHeartbeats 4000000 in
theorem Literal_copy (x : TLt) (A : Option Addr) (c : Nat) (L : Option Addr) (d : Nat) (R : Option Addr) (f : Nat) (w : World) (hsz : x.atom.args.length ≤ 30000 ∧ cntE x.left ≤ 30000 ∧ cntE x.right ≤ 30000) (hV : LtV w x A L R) :
    Calls Tryz.prog 39 #[ltV x A c L d R f] w (GotL w x) := by
  have mixed : Tryz.prog.follows .mixedOrders = true := by kernel_rfl
  have HV := Lib.hid hV
  have HSz := Lib.hid hsz
  have o1 : Own (w.alloc (.cells #[.int .i64 x.kind, .string x.atom.rel, .slice A x.atom.args.length c, .int .i64 x.op, .int .i64 x.left.op, .string x.left.t.v, .int .i64 x.left.t.k, .int .i64 x.left.t.n, .string x.left.t.s, .slice L x.left.kids.length d, .int .i64 x.right.op, .string x.right.t.v, .int .i64 x.right.t.k, .int .i64 x.right.t.n, .string x.right.t.s, .slice R x.right.kids.length f, .int .i64 x.pos] 50)) w.heap.size 50 [.int .i64 x.kind, .string x.atom.rel, .slice A x.atom.args.length c, .int .i64 x.op, .int .i64 x.left.op, .string x.left.t.v, .int .i64 x.left.t.k, .int .i64 x.left.t.n, .string x.left.t.s, .slice L x.left.kids.length d, .int .i64 x.right.op, .string x.right.t.v, .int .i64 x.right.t.k, .int .i64 x.right.t.n, .string x.right.t.s, .slice R x.right.kids.length f, .int .i64 x.pos] := heap_alloc_new _ _
  have o2 := heap_alloc_new (w.alloc (.cells #[.int .i64 x.kind, .string x.atom.rel, .slice A x.atom.args.length c, .int .i64 x.op, .int .i64 x.left.op, .string x.left.t.v, .int .i64 x.left.t.k, .int .i64 x.left.t.n, .string x.left.t.s, .slice L x.left.kids.length d, .int .i64 x.right.op, .string x.right.t.v, .int .i64 x.right.t.k, .int .i64 x.right.t.n, .string x.right.t.s, .slice R x.right.kids.length f, .int .i64 x.pos] 50)) (.cells #[.int .i64 0, .string noText, .slice none 0 0, .int .i64 0, .int .i64 0, .string noText, .int .i64 0, .int .i64 0, .string noText, .slice none 0 0, .int .i64 0, .string noText, .int .i64 0, .int .i64 0, .string noText, .slice none 0 0, .int .i64 0] 96)
  simp only [World.size_alloc] at o2
  have HO1 := Lib.hid (o1.alloc (.cells #[.int .i64 0, .string noText, .slice none 0 0, .int .i64 0, .int .i64 0, .string noText, .int .i64 0, .int .i64 0, .string noText, .slice none 0 0, .int .i64 0, .string noText, .int .i64 0, .int .i64 0, .string noText, .slice none 0 0, .int .i64 0] 96))
  have HO2 : Hid (Own ((w.alloc (.cells #[.int .i64 x.kind, .string x.atom.rel, .slice A x.atom.args.length c, .int .i64 x.op, .int .i64 x.left.op, .string x.left.t.v, .int .i64 x.left.t.k, .int .i64 x.left.t.n, .string x.left.t.s, .slice L x.left.kids.length d, .int .i64 x.right.op, .string x.right.t.v, .int .i64 x.right.t.k, .int .i64 x.right.t.n, .string x.right.t.s, .slice R x.right.kids.length f, .int .i64 x.pos] 50)).alloc (.cells #[.int .i64 0, .string noText, .slice none 0 0, .int .i64 0, .int .i64 0, .string noText, .int .i64 0, .int .i64 0, .string noText, .slice none 0 0, .int .i64 0, .string noText, .int .i64 0, .int .i64 0, .string noText, .slice none 0 0, .int .i64 0] 96)) (w.heap.size + 1) 96 [.int .i64 0, .string noText, .slice none 0 0, .int .i64 0, .int .i64 0, .string noText, .int .i64 0, .int .i64 0, .string noText, .slice none 0 0, .int .i64 0, .string noText, .int .i64 0, .int .i64 0, .string noText, .slice none 0 0, .int .i64 0]) := o2
  have HB0 : Hid (Below w.heap.size w ((w.alloc (.cells #[.int .i64 x.kind, .string x.atom.rel, .slice A x.atom.args.length c, .int .i64 x.op, .int .i64 x.left.op, .string x.left.t.v, .int .i64 x.left.t.k, .int .i64 x.left.t.n, .string x.left.t.s, .slice L x.left.kids.length d, .int .i64 x.right.op, .string x.right.t.v, .int .i64 x.right.t.k, .int .i64 x.right.t.n, .string x.right.t.s, .slice R x.right.kids.length f, .int .i64 x.pos] 50)).alloc (.cells #[.int .i64 0, .string noText, .slice none 0 0, .int .i64 0, .int .i64 0, .string noText, .int .i64 0, .int .i64 0, .string noText, .slice none 0 0, .int .i64 0, .string noText, .int .i64 0, .int .i64 0, .string noText, .slice none 0 0, .int .i64 0] 96))) := ((Below.refl _ _).alloc (Nat.le_refl _) _).alloc (by simp) _
  have HS0 : Hid (((w.alloc (.cells #[.int .i64 x.kind, .string x.atom.rel, .slice A x.atom.args.length c, .int .i64 x.op, .int .i64 x.left.op, .string x.left.t.v, .int .i64 x.left.t.k, .int .i64 x.left.t.n, .string x.left.t.s, .slice L x.left.kids.length d, .int .i64 x.right.op, .string x.right.t.v, .int .i64 x.right.t.k, .int .i64 x.right.t.n, .string x.right.t.s, .slice R x.right.kids.length f, .int .i64 x.pos] 50)).alloc (.cells #[.int .i64 0, .string noText, .slice none 0 0, .int .i64 0, .int .i64 0, .string noText, .int .i64 0, .int .i64 0, .string noText, .slice none 0 0, .int .i64 0, .string noText, .int .i64 0, .int .i64 0, .string noText, .slice none 0 0, .int .i64 0] 96)).heap.size = w.heap.size + 2) := by show _ = _; simp
  clear o1 o2 hV hsz
  unfold ltV
  go_enter Tryz.func39, Tryz.ntmps39
  go_wp2_with fail
  obtain ⟨W0, hW0⟩ : ∃ W0, W0 = ((w.alloc (.cells #[.int .i64 x.kind, .string x.atom.rel, .slice A x.atom.args.length c, .int .i64 x.op, .int .i64 x.left.op, .string x.left.t.v, .int .i64 x.left.t.k, .int .i64 x.left.t.n, .string x.left.t.s, .slice L x.left.kids.length d, .int .i64 x.right.op, .string x.right.t.v, .int .i64 x.right.t.k, .int .i64 x.right.t.n, .string x.right.t.s, .slice R x.right.kids.length f, .int .i64 x.pos] 50)).alloc (.cells #[.int .i64 0, .string noText, .slice none 0 0, .int .i64 0, .int .i64 0, .string noText, .int .i64 0, .int .i64 0, .string noText, .slice none 0 0, .int .i64 0, .string noText, .int .i64 0, .int .i64 0, .string noText, .slice none 0 0, .int .i64 0] 96)) := ⟨_, rfl⟩
  rw [← hW0] at HO1 HO2 HB0 HS0
  change (Code.region _ _ _).wp _ _ _ ((w.alloc (.cells #[.int .i64 x.kind, .string x.atom.rel, .slice A x.atom.args.length c, .int .i64 x.op, .int .i64 x.left.op, .string x.left.t.v, .int .i64 x.left.t.k, .int .i64 x.left.t.n, .string x.left.t.s, .slice L x.left.kids.length d, .int .i64 x.right.op, .string x.right.t.v, .int .i64 x.right.t.k, .int .i64 x.right.t.n, .string x.right.t.s, .slice R x.right.kids.length f, .int .i64 x.pos] 50)).alloc (.cells #[.int .i64 0, .string ⟨#[]⟩, .slice none 0 0, .int .i64 0, .int .i64 0, .string ⟨#[]⟩, .int .i64 0, .int .i64 0, .string ⟨#[]⟩, .slice none 0 0, .int .i64 0, .string ⟨#[]⟩, .int .i64 0, .int .i64 0, .string ⟨#[]⟩, .slice none 0 0, .int .i64 0] 96)) at ⊢
  rw [show ((w.alloc (.cells #[.int .i64 x.kind, .string x.atom.rel, .slice A x.atom.args.length c, .int .i64 x.op, .int .i64 x.left.op, .string x.left.t.v, .int .i64 x.left.t.k, .int .i64 x.left.t.n, .string x.left.t.s, .slice L x.left.kids.length d, .int .i64 x.right.op, .string x.right.t.v, .int .i64 x.right.t.k, .int .i64 x.right.t.n, .string x.right.t.s, .slice R x.right.kids.length f, .int .i64 x.pos] 50)).alloc (.cells #[.int .i64 0, .string ⟨#[]⟩, .slice none 0 0, .int .i64 0, .int .i64 0, .string ⟨#[]⟩, .int .i64 0, .int .i64 0, .string ⟨#[]⟩, .slice none 0 0, .int .i64 0, .string ⟨#[]⟩, .int .i64 0, .int .i64 0, .string ⟨#[]⟩, .slice none 0 0, .int .i64 0] 96)) = W0 from hW0.symm]
  obtain ⟨b1, hb1⟩ : ∃ b, b = w.heap.size := ⟨_, rfl⟩
  obtain ⟨b2, hb2⟩ : ∃ b, b = w.heap.size + 1 := ⟨_, rfl⟩
  rw [← hb2] at HO2 ⊢
  rw [← hb1] at HO1
  rw [show (Value.pointer (some ⟨w.heap.size, 0, none⟩)) = .pointer (some ⟨b1, 0, none⟩) by rw [hb1]]
  have HB1 := Lib.hid hb1
  have HB2 := Lib.hid hb2
  clear hW0 hb1 hb2
  rename_i K1 hK1
  have H1 : Hid (Value.pointer (some ⟨b1, 0, none⟩) = .pointer (some ⟨b1, 0, none⟩)) := rfl
  refine wp_region_makes (m := 16) (D := lcD) (F := LcF x A c L d R f (w.heap.size + 2) b1) mixed rfl ?hac ?hdst ?hinj ?hlt ?hg ?hlast LcF.keep ?hstep ?hfin
  case hac => exact ac_of (by kernel_rfl)
  case hdst => exact dst_of (by kernel_rfl)
  case hinj => exact inj_of (by kernel_rfl)
  case hlt =>
    intro i hi
    exact lt_of (n := 19) (by kernel_rfl) i hi
  case hg => exact guard_of (by kernel_rfl)
  case hlast => exact last_of (by kernel_rfl)
  case hstep =>
    intro i o hi ho a w1 hfr hlow hdep K hK
    have hO1 := HO1.out.below hlow
    have hn0 : w.heap.size + 2 ≤ w1.heap.size := by have := hlow.size; have := HS0.out; omega
    have hV1 := HV.out.below (HB0.out.trans (hlow.mono HB0.out.size))
    match i, hi with
    | 0, _ =>
      simp only [List.getElem?_toArray, List.getElem?_cons_zero, List.getElem?_cons_succ, Option.some.injEq] at ho
      subst ho
      have h1 : a.tmps.getD 1 undef = .pointer (some ⟨b1, 0, none⟩) := (hfr 1 (by decide)).trans H1.out
      refine mk_val (v := .pointer (some ⟨b1, 0, none⟩)) (w' := w1) ?_ (hK _ _ (Below.refl _ _) rfl)
      simp only [execOp, Act.eval, h1]
      kernel_rfl
    | 1, _ =>
      simp only [List.getElem?_toArray, List.getElem?_cons_zero, List.getElem?_cons_succ, Option.some.injEq] at ho
      subst ho
      have h1 : a.tmps.getD 3 undef = .pointer (some ⟨b1, 0, none⟩) := hdep ⟨0, .data⟩ (by simp) rfl
      refine mk_val (v := .int .i64 x.kind) (w' := w1) ?_ (hK _ _ (Below.refl _ _) rfl)
      simp only [execOp, Act.eval, h1, Instr.loadAt, Instr.sureAddr, Sem.run_bind, Sem.run_pure, Result.andThen_ok]
      rw [run_loadVar_one w1 b1 0 45 (.int .i64 x.kind) _ (hO1.cell 0) Tryz.underlying45 rfl]
      rfl
    | 2, _ =>
      simp only [List.getElem?_toArray, List.getElem?_cons_zero, List.getElem?_cons_succ, Option.some.injEq] at ho
      subst ho
      have h1 : a.tmps.getD 1 undef = .pointer (some ⟨b1, 0, none⟩) := (hfr 1 (by decide)).trans H1.out
      refine mk_val (v := .pointer (some ⟨b1, 1, none⟩)) (w' := w1) ?_ (hK _ _ (Below.refl _ _) rfl)
      simp only [execOp, Act.eval, h1]
      kernel_rfl
    | 3, _ =>
      simp only [List.getElem?_toArray, List.getElem?_cons_zero, List.getElem?_cons_succ, Option.some.injEq] at ho
      subst ho
      have h1 : a.tmps.getD 5 undef = .pointer (some ⟨b1, 1, none⟩) := hdep ⟨2, .data⟩ (by simp) rfl
      refine mk_val (v := .agg #[.string x.atom.rel, .slice A x.atom.args.length c]) (w' := w1) ?_ (hK _ _ (Below.refl _ _) rfl)
      simp only [execOp, Act.eval, h1, Instr.loadAt, Instr.sureAddr, Sem.run_bind, Sem.run_pure, Result.andThen_ok]
      rw [run_loadVar_at w1 b1 1 44 [.string x.atom.rel, .slice A x.atom.args.length c] _ ?_ Tryz.underlying44 rfl infoTam]
      · rfl
      · intro j v hv
        match j, hv with
        | 0, hv => cases hv; exact hO1.cell 1
        | 1, hv => cases hv; exact hO1.cell 2
        | n + 2, hv => simp at hv
    | 4, _ =>
      simp only [List.getElem?_toArray, List.getElem?_cons_zero, List.getElem?_cons_succ, Option.some.injEq] at ho
      subst ho
      have h1 : a.tmps.getD 6 undef = .agg #[.string x.atom.rel, .slice A x.atom.args.length c] := hdep ⟨3, .data⟩ (by simp) rfl
      refine mk_call (f := 38) (args := #[.agg #[.string x.atom.rel, .slice A x.atom.args.length c]]) ?_ ((Atom_copy x.atom A c w1 HSz.out.1 hV1.am).mono ?_)
      · simp only [execOp, resolve, Act.eval, List.map_toArray, List.map_cons, List.map_nil, h1]
        kernel_rfl
      · rintro e w' ⟨A2, c2, rfl, hE, hA, hb⟩
        exact ⟨_, rfl, hK _ _ hb ⟨A2, c2, rfl, hE, fun ad had => Nat.le_trans hn0 (hA ad had)⟩⟩
    | 5, _ =>
      simp only [List.getElem?_toArray, List.getElem?_cons_zero, List.getElem?_cons_succ, Option.some.injEq] at ho
      subst ho
      have h1 : a.tmps.getD 1 undef = .pointer (some ⟨b1, 0, none⟩) := (hfr 1 (by decide)).trans H1.out
      refine mk_val (v := .pointer (some ⟨b1, 3, none⟩)) (w' := w1) ?_ (hK _ _ (Below.refl _ _) rfl)
      simp only [execOp, Act.eval, h1]
      kernel_rfl
    | 6, _ =>
      simp only [List.getElem?_toArray, List.getElem?_cons_zero, List.getElem?_cons_succ, Option.some.injEq] at ho
      subst ho
      have h1 : a.tmps.getD 8 undef = .pointer (some ⟨b1, 3, none⟩) := hdep ⟨5, .data⟩ (by simp) rfl
      refine mk_val (v := .int .i64 x.op) (w' := w1) ?_ (hK _ _ (Below.refl _ _) rfl)
      simp only [execOp, Act.eval, h1, Instr.loadAt, Instr.sureAddr, Sem.run_bind, Sem.run_pure, Result.andThen_ok]
      rw [run_loadVar_one w1 b1 3 3 (.int .i64 x.op) _ (hO1.cell 3) Tryz.underlying3 rfl]
      rfl
    | 7, _ =>
      simp only [List.getElem?_toArray, List.getElem?_cons_zero, List.getElem?_cons_succ, Option.some.injEq] at ho
      subst ho
      have h1 : a.tmps.getD 1 undef = .pointer (some ⟨b1, 0, none⟩) := (hfr 1 (by decide)).trans H1.out
      refine mk_val (v := .pointer (some ⟨b1, 4, none⟩)) (w' := w1) ?_ (hK _ _ (Below.refl _ _) rfl)
      simp only [execOp, Act.eval, h1]
      kernel_rfl
    | 8, _ =>
      simp only [List.getElem?_toArray, List.getElem?_cons_zero, List.getElem?_cons_succ, Option.some.injEq] at ho
      subst ho
      have h1 : a.tmps.getD 10 undef = .pointer (some ⟨b1, 4, none⟩) := hdep ⟨7, .data⟩ (by simp) rfl
      refine mk_val (v := .agg #[.int .i64 x.left.op, .string x.left.t.v, .int .i64 x.left.t.k, .int .i64 x.left.t.n, .string x.left.t.s, .slice L x.left.kids.length d]) (w' := w1) ?_ (hK _ _ (Below.refl _ _) rfl)
      simp only [execOp, Act.eval, h1, Instr.loadAt, Instr.sureAddr, Sem.run_bind, Sem.run_pure, Result.andThen_ok]
      rw [run_loadVar_at w1 b1 4 48 [.int .i64 x.left.op, .string x.left.t.v, .int .i64 x.left.t.k, .int .i64 x.left.t.n, .string x.left.t.s, .slice L x.left.kids.length d] _ ?_ Tryz.underlying48 rfl infoTex]
      · rfl
      · intro j v hv
        match j, hv with
        | 0, hv => cases hv; exact hO1.cell 4
        | 1, hv => cases hv; exact hO1.cell 5
        | 2, hv => cases hv; exact hO1.cell 6
        | 3, hv => cases hv; exact hO1.cell 7
        | 4, hv => cases hv; exact hO1.cell 8
        | 5, hv => cases hv; exact hO1.cell 9
        | n + 6, hv => simp at hv
    | 9, _ =>
      simp only [List.getElem?_toArray, List.getElem?_cons_zero, List.getElem?_cons_succ, Option.some.injEq] at ho
      subst ho
      have h1 : a.tmps.getD 11 undef = .agg #[.int .i64 x.left.op, .string x.left.t.v, .int .i64 x.left.t.k, .int .i64 x.left.t.n, .string x.left.t.s, .slice L x.left.kids.length d] := hdep ⟨8, .data⟩ (by simp) rfl
      refine mk_call (f := 61) (args := #[.agg #[.int .i64 x.left.op, .string x.left.t.v, .int .i64 x.left.t.k, .int .i64 x.left.t.n, .string x.left.t.s, .slice L x.left.kids.length d]]) ?_ ((exp_copy (cntE x.left) x.left L d w1 (Nat.le_refl _) HSz.out.2.1 hV1.left).mono ?_)
      · simp only [execOp, resolve, Act.eval, List.map_toArray, List.map_cons, List.map_nil, h1]
        kernel_rfl
      · rintro e w' ⟨A2, c2, rfl, hE, hb⟩
        exact ⟨_, rfl, hK _ _ hb ⟨A2, c2, rfl, (exp_stab hE).more (fun k _ h => Nat.le_trans hn0 h)⟩⟩
    | 10, _ =>
      simp only [List.getElem?_toArray, List.getElem?_cons_zero, List.getElem?_cons_succ, Option.some.injEq] at ho
      subst ho
      have h1 : a.tmps.getD 1 undef = .pointer (some ⟨b1, 0, none⟩) := (hfr 1 (by decide)).trans H1.out
      refine mk_val (v := .pointer (some ⟨b1, 10, none⟩)) (w' := w1) ?_ (hK _ _ (Below.refl _ _) rfl)
      simp only [execOp, Act.eval, h1]
      kernel_rfl
    | 11, _ =>
      simp only [List.getElem?_toArray, List.getElem?_cons_zero, List.getElem?_cons_succ, Option.some.injEq] at ho
      subst ho
      have h1 : a.tmps.getD 13 undef = .pointer (some ⟨b1, 10, none⟩) := hdep ⟨10, .data⟩ (by simp) rfl
      refine mk_val (v := .agg #[.int .i64 x.right.op, .string x.right.t.v, .int .i64 x.right.t.k, .int .i64 x.right.t.n, .string x.right.t.s, .slice R x.right.kids.length f]) (w' := w1) ?_ (hK _ _ (Below.refl _ _) rfl)
      simp only [execOp, Act.eval, h1, Instr.loadAt, Instr.sureAddr, Sem.run_bind, Sem.run_pure, Result.andThen_ok]
      rw [run_loadVar_at w1 b1 10 48 [.int .i64 x.right.op, .string x.right.t.v, .int .i64 x.right.t.k, .int .i64 x.right.t.n, .string x.right.t.s, .slice R x.right.kids.length f] _ ?_ Tryz.underlying48 rfl infoTex]
      · rfl
      · intro j v hv
        match j, hv with
        | 0, hv => cases hv; exact hO1.cell 10
        | 1, hv => cases hv; exact hO1.cell 11
        | 2, hv => cases hv; exact hO1.cell 12
        | 3, hv => cases hv; exact hO1.cell 13
        | 4, hv => cases hv; exact hO1.cell 14
        | 5, hv => cases hv; exact hO1.cell 15
        | n + 6, hv => simp at hv
    | 12, _ =>
      simp only [List.getElem?_toArray, List.getElem?_cons_zero, List.getElem?_cons_succ, Option.some.injEq] at ho
      subst ho
      have h1 : a.tmps.getD 14 undef = .agg #[.int .i64 x.right.op, .string x.right.t.v, .int .i64 x.right.t.k, .int .i64 x.right.t.n, .string x.right.t.s, .slice R x.right.kids.length f] := hdep ⟨11, .data⟩ (by simp) rfl
      refine mk_call (f := 61) (args := #[.agg #[.int .i64 x.right.op, .string x.right.t.v, .int .i64 x.right.t.k, .int .i64 x.right.t.n, .string x.right.t.s, .slice R x.right.kids.length f]]) ?_ ((exp_copy (cntE x.right) x.right R f w1 (Nat.le_refl _) HSz.out.2.2 hV1.right).mono ?_)
      · simp only [execOp, resolve, Act.eval, List.map_toArray, List.map_cons, List.map_nil, h1]
        kernel_rfl
      · rintro e w' ⟨A2, c2, rfl, hE, hb⟩
        exact ⟨_, rfl, hK _ _ hb ⟨A2, c2, rfl, (exp_stab hE).more (fun k _ h => Nat.le_trans hn0 h)⟩⟩
    | 13, _ =>
      simp only [List.getElem?_toArray, List.getElem?_cons_zero, List.getElem?_cons_succ, Option.some.injEq] at ho
      subst ho
      have h1 : a.tmps.getD 1 undef = .pointer (some ⟨b1, 0, none⟩) := (hfr 1 (by decide)).trans H1.out
      refine mk_val (v := .pointer (some ⟨b1, 16, none⟩)) (w' := w1) ?_ (hK _ _ (Below.refl _ _) rfl)
      simp only [execOp, Act.eval, h1]
      kernel_rfl
    | 14, _ =>
      simp only [List.getElem?_toArray, List.getElem?_cons_zero, List.getElem?_cons_succ, Option.some.injEq] at ho
      subst ho
      have h1 : a.tmps.getD 16 undef = .pointer (some ⟨b1, 16, none⟩) := hdep ⟨13, .data⟩ (by simp) rfl
      refine mk_val (v := .int .i64 x.pos) (w' := w1) ?_ (hK _ _ (Below.refl _ _) rfl)
      simp only [execOp, Act.eval, h1, Instr.loadAt, Instr.sureAddr, Sem.run_bind, Sem.run_pure, Result.andThen_ok]
      rw [run_loadVar_one w1 b1 16 3 (.int .i64 x.pos) _ (hO1.cell 16) Tryz.underlying3 rfl]
      rfl
    | 15, _ =>
      simp only [List.getElem?_toArray, List.getElem?_cons_zero, List.getElem?_cons_succ, Option.some.injEq] at ho
      subst ho
      have h0 : a.tmps.getD 4 undef = .int .i64 x.kind := hdep ⟨1, .data⟩ (by simp) rfl
      obtain ⟨A2, c2, h1, s1⟩ : LcF x A c L d R f (w.heap.size + 2) b1 4 (a.tmps.getD 7 undef) w1 := hdep ⟨4, .data⟩ (by simp) rfl
      have h2 : a.tmps.getD 9 undef = .int .i64 x.op := hdep ⟨6, .data⟩ (by simp) rfl
      obtain ⟨L2, d2, h3, s3⟩ : LcF x A c L d R f (w.heap.size + 2) b1 9 (a.tmps.getD 12 undef) w1 := hdep ⟨9, .data⟩ (by simp) rfl
      obtain ⟨R2, f2, h4, s4⟩ : LcF x A c L d R f (w.heap.size + 2) b1 12 (a.tmps.getD 15 undef) w1 := hdep ⟨12, .data⟩ (by simp) rfl
      have h5 : a.tmps.getD 17 undef = .int .i64 x.pos := hdep ⟨14, .data⟩ (by simp) rfl
      refine mk_val (v := .agg #[.int .i64 x.kind, .string x.atom.rel, .slice A2 x.atom.args.length c2, .int .i64 x.op, .int .i64 x.left.op, .string x.left.t.v, .int .i64 x.left.t.k, .int .i64 x.left.t.n, .string x.left.t.s, .slice L2 x.left.kids.length d2, .int .i64 x.right.op, .string x.right.t.v, .int .i64 x.right.t.k, .int .i64 x.right.t.n, .string x.right.t.s, .slice R2 x.right.kids.length f2, .int .i64 x.pos]) (w' := w1) ?_ (hK _ _ (Below.refl _ _) ⟨A2, c2, L2, d2, R2, f2, rfl, s1, s3, s4⟩)
      simp only [execOp, Act.eval, List.map_toArray, List.map_cons, List.map_nil, h0, h1, h2, h3, h4, h5]
      kernel_rfl
    | n + 16, h => omega
  case hfin =>
    intro o ho a w1 hdf hsz hfr hlow hall
    simp only [List.getElem?_toArray, List.getElem?_cons_zero, List.getElem?_cons_succ, Option.some.injEq] at ho
    subst ho
    obtain ⟨A2, c2, L2, d2, R2, f2, h18, s1, s3, s4⟩ : LcF x A c L d R f (w.heap.size + 2) b1 15 (a.tmps.getD 18 undef) w1 := hall 15 (by decide)
    have h2 : a.tmps.getD 2 undef = .pointer (some ⟨b2, 0, none⟩) := (hfr 2 (by decide)).trans rfl
    have hO2 := HO2.out.below hlow
    refine wp_store_row 96 (.tmp 2) (.tmp 18) rfl b2 #[.int .i64 x.kind, .string x.atom.rel, .slice A2 x.atom.args.length c2, .int .i64 x.op, .int .i64 x.left.op, .string x.left.t.v, .int .i64 x.left.t.k, .int .i64 x.left.t.n, .string x.left.t.s, .slice L2 x.left.kids.length d2, .int .i64 x.right.op, .string x.right.t.v, .int .i64 x.right.t.k, .int .i64 x.right.t.n, .string x.right.t.s, .slice R2 x.right.kids.length f2, .int .i64 x.pos] h2 h18 96 #[.int .i64 0, .string noText, .slice none 0 0, .int .i64 0, .int .i64 0, .string noText, .int .i64 0, .int .i64 0, .string noText, .slice none 0 0, .int .i64 0, .string noText, .int .i64 0, .int .i64 0, .string noText, .slice none 0 0, .int .i64 0] hO2 infoRlt rfl (by simp [Value.oneCell']) ?_
    have hrow := setRow_heap w1 b2 _ #[.int .i64 x.kind, .string x.atom.rel, .slice A2 x.atom.args.length c2, .int .i64 x.op, .int .i64 x.left.op, .string x.left.t.v, .int .i64 x.left.t.k, .int .i64 x.left.t.n, .string x.left.t.s, .slice L2 x.left.kids.length d2, .int .i64 x.right.op, .string x.right.t.v, .int .i64 x.right.t.k, .int .i64 x.right.t.n, .string x.right.t.s, .slice R2 x.right.kids.length f2, .int .i64 x.pos] _ _ hO2
    have hkr : Kept [b2] w1 (w1.setRow b2 #[.int .i64 x.kind, .string x.atom.rel, .slice A2 x.atom.args.length c2, .int .i64 x.op, .int .i64 x.left.op, .string x.left.t.v, .int .i64 x.left.t.k, .int .i64 x.left.t.n, .string x.left.t.s, .slice L2 x.left.kids.length d2, .int .i64 x.right.op, .string x.right.t.v, .int .i64 x.right.t.k, .int .i64 x.right.t.n, .string x.right.t.s, .slice R2 x.right.kids.length f2, .int .i64 x.pos]) := ⟨rfl, rfl, rfl, by simp, fun k _ hn => setRow_other w1 b2 k _ (by simpa using hn)⟩
    have hbel : Below w.heap.size w (w1.setRow b2 #[.int .i64 x.kind, .string x.atom.rel, .slice A2 x.atom.args.length c2, .int .i64 x.op, .int .i64 x.left.op, .string x.left.t.v, .int .i64 x.left.t.k, .int .i64 x.left.t.n, .string x.left.t.s, .slice L2 x.left.kids.length d2, .int .i64 x.right.op, .string x.right.t.v, .int .i64 x.right.t.k, .int .i64 x.right.t.n, .string x.right.t.s, .slice R2 x.right.kids.length f2, .int .i64 x.pos]) := (HB0.out.trans (hlow.mono HB0.out.size)).trans (hkr.below (by have := hlow.size; have := HS0.out; omega) (fun k hk => by simp only [List.mem_singleton] at hk; have := HB2.out; omega))
    have hst : Stab (w1.setRow b2 #[.int .i64 x.kind, .string x.atom.rel, .slice A2 x.atom.args.length c2, .int .i64 x.op, .int .i64 x.left.op, .string x.left.t.v, .int .i64 x.left.t.k, .int .i64 x.left.t.n, .string x.left.t.s, .slice L2 x.left.kids.length d2, .int .i64 x.right.op, .string x.right.t.v, .int .i64 x.right.t.k, .int .i64 x.right.t.n, .string x.right.t.s, .slice R2 x.right.kids.length f2, .int .i64 x.pos]) (fun k => w.heap.size ≤ k) (fun W => LtV W x A2 L2 R2) :=
      ((((am_stab s1.1 s1.2).and (s3.and s4)).keep (P' := fun k => w.heap.size ≤ k) hkr.size (fun k hkw hp => hkr.block k hkw (by simp only [List.mem_singleton]; have := HB2.out; omega)) (fun k _ hp => by omega)).imp (fun W h => ⟨h.1, h.2.1, h.2.2, HV.out.lo, HV.out.hi⟩))
    have HST := Lib.hid hst
    have HBL := Lib.hid hbel
    have HRW := Lib.hid hrow
    generalize w1.setRow b2 #[.int .i64 x.kind, .string x.atom.rel, .slice A2 x.atom.args.length c2, .int .i64 x.op, .int .i64 x.left.op, .string x.left.t.v, .int .i64 x.left.t.k, .int .i64 x.left.t.n, .string x.left.t.s, .slice L2 x.left.kids.length d2, .int .i64 x.right.op, .string x.right.t.v, .int .i64 x.right.t.k, .int .i64 x.right.t.n, .string x.right.t.s, .slice R2 x.right.kids.length f2, .int .i64 x.pos] = W2 at HST HBL HRW ⊢
    refine hK1 _ _ ?_
    clear hK1 hst hbel hrow hkr hO2 hlow hall hfr h18 s1 s3 s4
    obtain ⟨⟨l⟩, df⟩ := a
    simp only [Act.put] at hdf hsz h2 ⊢
    subst hdf
    change l.length = 19 at hsz
    obtain ⟨t0, l0, rfl, hz0⟩ := cons_of hsz
    obtain ⟨t1, l1, rfl, hz1⟩ := cons_of hz0
    obtain ⟨t2, l2, rfl, hz2⟩ := cons_of hz1
    obtain ⟨t3, l3, rfl, hz3⟩ := cons_of hz2
    obtain ⟨t4, l4, rfl, hz4⟩ := cons_of hz3
    obtain ⟨t5, l5, rfl, hz5⟩ := cons_of hz4
    obtain ⟨t6, l6, rfl, hz6⟩ := cons_of hz5
    obtain ⟨t7, l7, rfl, hz7⟩ := cons_of hz6
    obtain ⟨t8, l8, rfl, hz8⟩ := cons_of hz7
    obtain ⟨t9, l9, rfl, hz9⟩ := cons_of hz8
    obtain ⟨t10, l10, rfl, hz10⟩ := cons_of hz9
    obtain ⟨t11, l11, rfl, hz11⟩ := cons_of hz10
    obtain ⟨t12, l12, rfl, hz12⟩ := cons_of hz11
    obtain ⟨t13, l13, rfl, hz13⟩ := cons_of hz12
    obtain ⟨t14, l14, rfl, hz14⟩ := cons_of hz13
    obtain ⟨t15, l15, rfl, hz15⟩ := cons_of hz14
    obtain ⟨t16, l16, rfl, hz16⟩ := cons_of hz15
    obtain ⟨t17, l17, rfl, hz17⟩ := cons_of hz16
    obtain ⟨t18, l18, rfl, hz18⟩ := cons_of hz17
    obtain rfl : l18 = [] := List.eq_nil_of_length_eq_zero hz18
    clear hsz hz0 hz1 hz2 hz3 hz4 hz5 hz6 hz7 hz8 hz9 hz10 hz11 hz12 hz13 hz14 hz15 hz16 hz17 hz18
    have h2' : t2 = .pointer (some ⟨b2, 0, none⟩) := h2
    clear h2
    subst h2'
    go_wp2_with fail
    refine bodyPost_ret (v := .agg #[.int .i64 x.kind, .string x.atom.rel, .slice A2 x.atom.args.length c2, .int .i64 x.op, .int .i64 x.left.op, .string x.left.t.v, .int .i64 x.left.t.k, .int .i64 x.left.t.n, .string x.left.t.s, .slice L2 x.left.kids.length d2, .int .i64 x.right.op, .string x.right.t.v, .int .i64 x.right.t.k, .int .i64 x.right.t.n, .string x.right.t.s, .slice R2 x.right.kids.length f2, .int .i64 x.pos]) (results_cell_row (P := Tryz.prog) rfl _ _ b2 96 _ (0, 0) _ rfl HRW.out Tryz.underlying96 rfl infoRlt) rfl ?_
    exact ⟨A2, c2, L2, d2, R2, f2, rfl, HST.out, HBL.out⟩
end Go.Proofs.YtlfakhjcpdkaiaaGreatDoor

set_option linter.unusedVariables false
set_option linter.unusedSimpArgs false
namespace Go.Proofs.YtlfakhjcpdkaiaaGreatDoor
open Go.RowKit Go.Deep Go.Shelf

theorem ltF_cells {W : World} {b o : Nat} {x : TLt} {A : Option Addr} {c : Nat} {L : Option Addr} {d : Nat} {R : Option Addr} {f : Nat} (hF : LtF W b o x A c L d R f) : ∀ (i : Nat) v, (ltL x A c L d R f)[i]? = some v → W.cell? ⟨b, o + i, none⟩ = some v := fun i v hv => by
  obtain ⟨e0, e1, e2, e3, ⟨e4, e5, e6, e7, e8, e9⟩, ⟨e10, e11, e12, e13, e14, e15⟩, e16⟩ := hF
  match i, hv with
  | 0, hv => cases hv; exact e0
  | 1, hv => cases hv; exact e1
  | 2, hv => cases hv; exact e2
  | 3, hv => cases hv; exact e3
  | 4, hv => cases hv; exact e4
  | 5, hv => cases hv; exact e5
  | 6, hv => cases hv; exact e6
  | 7, hv => cases hv; exact e7
  | 8, hv => cases hv; exact e8
  | 9, hv => cases hv; exact e9
  | 10, hv => cases hv; exact e10
  | 11, hv => cases hv; exact e11
  | 12, hv => cases hv; exact e12
  | 13, hv => cases hv; exact e13
  | 14, hv => cases hv; exact e14
  | 15, hv => cases hv; exact e15
  | 16, hv => cases hv; exact e16
  | n + 17, hv => simp [ltL] at hv
set_option maxRecDepth 100000 in
set_option maxHeartbeats 4000000 in
theorem refRu_is (r : TRu) (A : Option Addr) (c : Nat) (B : Option Addr) (d : Nat) (b : Bool) (w : World) (h : rightRu r = b) (hV : RuV w r A B) :
    Calls Tryz.prog 22 #[ruV r A c B d] w fun e w' => e = .returned (.bool b) ∧ Below w.heap.size w w' := by
  unfold ruV
  unfold rightRu at h
  have hO : Own (w.alloc (.cells #[.string r.head.rel, .slice A r.head.args.length c, .int .i64 r.agg, .int .i64 r.col, .slice B r.body.length d, .int .i64 r.pos] 70)) w.heap.size 70 [.string r.head.rel, .slice A r.head.args.length c, .int .i64 r.agg, .int .i64 r.col, .slice B r.body.length d, .int .i64 r.pos] := heap_alloc_new _ _
  have HO0 := Lib.hid hO
  have HB0 : Hid (Below w.heap.size w (w.alloc (.cells #[.string r.head.rel, .slice A r.head.args.length c, .int .i64 r.agg, .int .i64 r.col, .slice B r.body.length d, .int .i64 r.pos] 70))) := (Below.refl w.heap.size w).alloc (Nat.le_refl _) _
  have CA : Hid (∀ W, Below w.heap.size w W → Calls Tryz.prog 44 #[amV r.head A c] W fun e w' => e = .returned (.bool (rightAm r.head)) ∧ Below W.heap.size W w') := fun W hb => refAm_is r.head A c _ W rfl (hV.am.below hb)
  have HVA := Lib.hid hV.am.row
  have HVB := Lib.hid hV.row
  have hbl := hV.row.1
  have hal := hV.am.row.1
  unfold amV at CA
  clear hV hO
  generalize rightAm r.head = vA at h CA
  cases vA with
  | false =>
    rw [Bool.false_and] at h
    subst h
    go_enter Tryz.func22, Tryz.ntmps22
    go_wp2_with fail
    refine (CA.out _ HB0.out).mono ?_
    rintro r w1 ⟨rfl, hb⟩
    have HB1 : Hid (Below w.heap.size w w1) := HB0.out.trans (hb.mono HB0.out.size)
    have HO1 := Lib.hid (HO0.out.below hb)
    clear hb
    go_wp2_with fail
    go_ret
    exact ⟨rfl, HB1.out⟩
  | true =>
    rw [Bool.true_and] at h
    by_cases h8 : r.body.length ≤ 8
    · have d8 : decide (8 < r.body.length) = false := by simp; omega
      have d8i : decide ((8 : Int) < (r.body.length : Int)) = false := by simp; omega
      rw [decide_eq_true h8, Bool.true_and] at h
      by_cases h0 : r.agg < 0
      · have d0 : decide (r.agg < 0) = true := by simpa using h0
        have hf : aggB r = false := by
          unfold aggB
          rw [if_neg (fun e => by omega), decide_eq_false (by omega), Bool.false_and]
        rw [hf, Bool.false_and] at h
        subst h
        clear hf h8 h0
        go_enter Tryz.func22, Tryz.ntmps22
        go_wp2_with fail
        refine (CA.out _ HB0.out).mono ?_
        rintro r w1 ⟨rfl, hb⟩
        have HB1 : Hid (Below w.heap.size w w1) := HB0.out.trans (hb.mono HB0.out.size)
        have HO1 := Lib.hid (HO0.out.below hb)
        clear hb
        have c1 := HO1.out.cell 1
        have c2 := HO1.out.cell 2
        have c3 := HO1.out.cell 3
        have c4 := HO1.out.cell 4
        simp only [List.getElem?_cons_zero, List.getElem?_cons_succ] at c1 c2 c3 c4
        go_wp2_with fail
        go_ret
        exact ⟨rfl, HB1.out⟩
      · have d0 : decide (r.agg < 0) = false := by simp; omega
        by_cases h4 : r.agg ≤ 4
        · have d4 : decide (4 < r.agg) = false := by simp; omega
          by_cases hz : r.agg = 0
          · have ez : (r.agg == 0) = true := by simp [hz]
            have dz : decide (0 < r.agg) = false := by simp; omega
            by_cases hc : r.col = 0
            · have ec : (r.col != 0) = false := by simp [hc]
              have ec2 : (r.col == 0) = true := by simp [hc]
              have hf : aggB r = true := by
                unfold aggB
                rw [if_pos ⟨hz, hc⟩]
              rw [hf, Bool.true_and] at h
              have H := Lib.hid h
              clear hf h8 h0 h4 h hz hc
              go_enter Tryz.func22, Tryz.ntmps22
              go_wp2_with fail
              refine (CA.out _ HB0.out).mono ?_
              rintro r w1 ⟨rfl, hb⟩
              have HB1 : Hid (Below w.heap.size w w1) := HB0.out.trans (hb.mono HB0.out.size)
              have HO1 := Lib.hid (HO0.out.below hb)
              clear hb
              have c1 := HO1.out.cell 1
              have c2 := HO1.out.cell 2
              have c3 := HO1.out.cell 3
              have c4 := HO1.out.cell 4
              simp only [List.getElem?_cons_zero, List.getElem?_cons_succ] at c1 c2 c3 c4
              go_wp2_with fail
              go_loopw [3] (fun i wr => ∃ j : Nat, j ≤ r.body.length ∧ i = .int .i64 j ∧ Hid (r.body.all rightLt = (r.body.drop j).all rightLt) ∧ Hid (Below w1.heap.size w1 wr)) (fun i _ => r.body.length - (intOf i).toNat)
              case atStart => exact ⟨0, Nat.zero_le _, rfl, Lib.hid rfl, Lib.hid (Below.refl _ _)⟩
              case round =>
                obtain ⟨j, hj, rfl, HX, HB⟩ := hrel
                have HOr := HO1.out.below HB.out
                have c4 := HOr.cell 4
                simp only [List.getElem?_cons_zero, List.getElem?_cons_succ] at c4
                have cq := HOr.lt
                clear HOr
                by_cases hlt : j < r.body.length
                · obtain ⟨g, o, rfl, hgw, hc⟩ := HVB.out.at_ hlt
                  obtain ⟨A1, c1', L1, d1', R1, f1, hF, hLV⟩ := (hc.pers (Pers.of (HB1.out.trans (HB.out.mono HB1.out.size)))).open_
                  have HS : Hid ((r.body.drop j).all rightLt = (rightLt r.body[j] && (r.body.drop (j + 1)).all rightLt)) := by show _ = _; rw [List.drop_eq_getElem_cons hlt, List.all_cons]
                  have HE := Lib.hid (HX.out.trans HS.out)
                  clear HS HX hc
                  generalize r.body[j] = y at hF hLV HE
                  obtain ⟨cs, hcs⟩ : ∃ cs, cs = ltL y A1 c1' L1 d1' R1 f1 := ⟨_, rfl⟩
                  have HCS : Hid (∀ (i : Nat) v, cs[i]? = some v → wr.cell? ⟨g, o + j * 17 + i, none⟩ = some v) := fun i v hv => ltF_cells hF i v (by rw [← hcs]; exact hv)
                  have HI1 : Hid ((Tryz.prog.info? 96).map (·.size) = some cs.length) := by show _ = _; rw [hcs]; exact infoRlt
                  have C : Hid (Calls Tryz.prog 45 #[.agg cs.toArray] wr fun r w' => r = .returned (.bool (rightLt y)) ∧ Below wr.heap.size wr w') := by
                    rw [hcs]
                    exact refLt_is y A1 c1' L1 d1' R1 f1 _ wr rfl hLV
                  clear hF hLV hcs
                  cases hb : rightLt y with
                  | false =>
                    rw [hb] at C HE
                    rw [Bool.false_and] at HE
                    clear hb
                    go_wp2_with (refine wpList_load_at (o := ⟨some 74, _, _, _, _, _⟩) rfl 96 _ rfl g (o + j * 17) rfl cs HCS.out _ Tryz.underlying96 rfl HI1.out ?_)
                    refine C.out.mono ?_
                    rintro e w' ⟨rfl, hb⟩
                    have HBF := Lib.hid (HB1.out.trans ((HB.out.trans (hb.mono HB.out.size)).mono HB1.out.size))
                    clear hb
                    go_wp2_with fail
                    go_ret
                    exact ⟨by rw [← H.out, HE.out]; rfl, HBF.out⟩
                  | true =>
                    rw [hb] at C HE
                    rw [Bool.true_and] at HE
                    clear hb
                    go_wp2_with (refine wpList_load_at (o := ⟨some 74, _, _, _, _, _⟩) rfl 96 _ rfl g (o + j * 17) rfl cs HCS.out _ Tryz.underlying96 rfl HI1.out ?_)
                    refine C.out.mono ?_
                    rintro e w' ⟨rfl, hb⟩
                    have HB' : Hid (Below w1.heap.size w1 w') := HB.out.trans (hb.mono HB.out.size)
                    clear hb
                    go_wp2_with fail
                    go_roundw
                    case rel => exact ⟨j + 1, by omega, by go_num, HE, HB'⟩
                    case measure => simp [intOf]; omega
                · have HE : Hid (b = true) := by show _ = _; rw [← H.out, HX.out, List.drop_eq_nil_of_le (by omega)]; rfl
                  have HBF := Lib.hid (HB1.out.trans (HB.out.mono HB1.out.size))
                  clear HX
                  go_wp2_with fail
                  go_ret
                  exact ⟨by rw [HE.out]; rfl, HBF.out⟩
            · have ec : (r.col != 0) = true := by simp [hc]
              have ec2 : (r.col == 0) = false := by simp [hc]
              have hf : aggB r = false := by
                unfold aggB
                rw [if_neg (fun e => hc e.2), decide_eq_false (by omega), Bool.false_and]
              rw [hf, Bool.false_and] at h
              subst h
              clear hf h8 h0 h4 hz hc
              go_enter Tryz.func22, Tryz.ntmps22
              go_wp2_with fail
              refine (CA.out _ HB0.out).mono ?_
              rintro r w1 ⟨rfl, hb⟩
              have HB1 : Hid (Below w.heap.size w w1) := HB0.out.trans (hb.mono HB0.out.size)
              have HO1 := Lib.hid (HO0.out.below hb)
              clear hb
              have c1 := HO1.out.cell 1
              have c2 := HO1.out.cell 2
              have c3 := HO1.out.cell 3
              have c4 := HO1.out.cell 4
              simp only [List.getElem?_cons_zero, List.getElem?_cons_succ] at c1 c2 c3 c4
              go_wp2_with fail
              go_ret
              exact ⟨rfl, HB1.out⟩
          · have ez : (r.agg == 0) = false := by simp [hz]
            have dz : decide (0 < r.agg) = true := by simp; omega
            have hpos : 1 ≤ r.agg ∧ r.agg ≤ 4 := ⟨by omega, h4⟩
            have hag : aggB r = (match r.head.args[r.col.toNat]? with | some t => decide (0 ≤ r.col) && decide (t.v.size ≠ 0) | none => false) := by
              unfold aggB
              rw [if_neg (fun e => hz e.1), decide_eq_true hpos, Bool.true_and]
              rfl
            clear hz h4 h0 hpos
            by_cases h5 : r.col < 0
            · have d5 : decide (r.col < 0) = true := by simpa using h5
              have hf : aggB r = false := by
                rw [hag]
                split
                · rw [decide_eq_false (by omega), Bool.false_and]
                · rfl
              rw [hf, Bool.false_and] at h
              subst h
              clear hf hag h8 h5
              go_enter Tryz.func22, Tryz.ntmps22
              go_wp2_with fail
              refine (CA.out _ HB0.out).mono ?_
              rintro r w1 ⟨rfl, hb⟩
              have HB1 : Hid (Below w.heap.size w w1) := HB0.out.trans (hb.mono HB0.out.size)
              have HO1 := Lib.hid (HO0.out.below hb)
              clear hb
              have c1 := HO1.out.cell 1
              have c2 := HO1.out.cell 2
              have c3 := HO1.out.cell 3
              have c4 := HO1.out.cell 4
              simp only [List.getElem?_cons_zero, List.getElem?_cons_succ] at c1 c2 c3 c4
              go_wp2_with fail
              go_ret
              exact ⟨rfl, HB1.out⟩
            · obtain ⟨k, hk⟩ : ∃ k : Nat, r.col = (k : Int) := ⟨r.col.toNat, by omega⟩
              rw [hk] at hag HO0 HB0 ⊢
              have hkn : ((k : Int)).toNat = k := rfl
              rw [hkn] at hag
              clear h5 hk hkn
              by_cases h6 : k < r.head.args.length
              · have d6 : decide (r.head.args.length ≤ k) = false := by simp; omega
                rw [List.getElem?_eq_getElem h6] at hag
                simp only at hag
                rw [decide_eq_true (by omega : (0 : Int) ≤ (k : Int)), Bool.true_and] at hag
                obtain ⟨g0, o0, rfl, hgw0, t0, _, _, _, _⟩ := HVA.out.at_ h6
                generalize r.head.args[k] = y0 at *
                by_cases h7 : y0.v.size = 0
                · have e7 := beq0 h7
                  rw [hag, decide_eq_false (by simp [h7]), Bool.false_and] at h
                  subst h
                  have T0 := Lib.hid t0
                  clear hag h8 h7 t0
                  go_enter Tryz.func22, Tryz.ntmps22
                  go_wp2_with fail
                  refine (CA.out _ HB0.out).mono ?_
                  rintro r w1 ⟨rfl, hb⟩
                  have HB1 : Hid (Below w.heap.size w w1) := HB0.out.trans (hb.mono HB0.out.size)
                  have HO1 := Lib.hid (HO0.out.below hb)
                  clear hb
                  have c1 := HO1.out.cell 1
                  have c2 := HO1.out.cell 2
                  have c3 := HO1.out.cell 3
                  have c4 := HO1.out.cell 4
                  simp only [List.getElem?_cons_zero, List.getElem?_cons_succ] at c1 c2 c3 c4
                  have t0 := (HB1.out.cell (p := ⟨g0, _, none⟩) hgw0).trans T0.out
                  go_wp2_with fail
                  go_ret
                  exact ⟨rfl, HB1.out⟩
                · have e7 := beq0_not h7
                  rw [hag, decide_eq_true (by simpa using h7), Bool.true_and] at h
                  have H := Lib.hid h
                  have T0 := Lib.hid t0
                  clear hag h8 h7 h t0
                  go_enter Tryz.func22, Tryz.ntmps22
                  go_wp2_with fail
                  refine (CA.out _ HB0.out).mono ?_
                  rintro r w1 ⟨rfl, hb⟩
                  have HB1 : Hid (Below w.heap.size w w1) := HB0.out.trans (hb.mono HB0.out.size)
                  have HO1 := Lib.hid (HO0.out.below hb)
                  clear hb
                  have c1 := HO1.out.cell 1
                  have c2 := HO1.out.cell 2
                  have c3 := HO1.out.cell 3
                  have c4 := HO1.out.cell 4
                  simp only [List.getElem?_cons_zero, List.getElem?_cons_succ] at c1 c2 c3 c4
                  have t0 := (HB1.out.cell (p := ⟨g0, _, none⟩) hgw0).trans T0.out
                  go_wp2_with fail
                  clear t0
                  go_loopw [3] (fun i wr => ∃ j : Nat, j ≤ r.body.length ∧ i = .int .i64 j ∧ Hid (r.body.all rightLt = (r.body.drop j).all rightLt) ∧ Hid (Below w1.heap.size w1 wr)) (fun i _ => r.body.length - (intOf i).toNat)
                  case atStart => exact ⟨0, Nat.zero_le _, rfl, Lib.hid rfl, Lib.hid (Below.refl _ _)⟩
                  case round =>
                    obtain ⟨j, hj, rfl, HX, HB⟩ := hrel
                    have HOr := HO1.out.below HB.out
                    have c4 := HOr.cell 4
                    simp only [List.getElem?_cons_zero, List.getElem?_cons_succ] at c4
                    have cq := HOr.lt
                    clear HOr
                    by_cases hlt : j < r.body.length
                    · obtain ⟨g, o, rfl, hgw, hc⟩ := HVB.out.at_ hlt
                      obtain ⟨A1, c1', L1, d1', R1, f1, hF, hLV⟩ := (hc.pers (Pers.of (HB1.out.trans (HB.out.mono HB1.out.size)))).open_
                      have HS : Hid ((r.body.drop j).all rightLt = (rightLt r.body[j] && (r.body.drop (j + 1)).all rightLt)) := by show _ = _; rw [List.drop_eq_getElem_cons hlt, List.all_cons]
                      have HE := Lib.hid (HX.out.trans HS.out)
                      clear HS HX hc
                      generalize r.body[j] = y at hF hLV HE
                      obtain ⟨cs, hcs⟩ : ∃ cs, cs = ltL y A1 c1' L1 d1' R1 f1 := ⟨_, rfl⟩
                      have HCS : Hid (∀ (i : Nat) v, cs[i]? = some v → wr.cell? ⟨g, o + j * 17 + i, none⟩ = some v) := fun i v hv => ltF_cells hF i v (by rw [← hcs]; exact hv)
                      have HI1 : Hid ((Tryz.prog.info? 96).map (·.size) = some cs.length) := by show _ = _; rw [hcs]; exact infoRlt
                      have C : Hid (Calls Tryz.prog 45 #[.agg cs.toArray] wr fun r w' => r = .returned (.bool (rightLt y)) ∧ Below wr.heap.size wr w') := by
                        rw [hcs]
                        exact refLt_is y A1 c1' L1 d1' R1 f1 _ wr rfl hLV
                      clear hF hLV hcs
                      cases hb : rightLt y with
                      | false =>
                        rw [hb] at C HE
                        rw [Bool.false_and] at HE
                        clear hb
                        go_wp2_with (refine wpList_load_at (o := ⟨some 74, _, _, _, _, _⟩) rfl 96 _ rfl g (o + j * 17) rfl cs HCS.out _ Tryz.underlying96 rfl HI1.out ?_)
                        refine C.out.mono ?_
                        rintro e w' ⟨rfl, hb⟩
                        have HBF := Lib.hid (HB1.out.trans ((HB.out.trans (hb.mono HB.out.size)).mono HB1.out.size))
                        clear hb
                        go_wp2_with fail
                        go_ret
                        exact ⟨by rw [← H.out, HE.out]; rfl, HBF.out⟩
                      | true =>
                        rw [hb] at C HE
                        rw [Bool.true_and] at HE
                        clear hb
                        go_wp2_with (refine wpList_load_at (o := ⟨some 74, _, _, _, _, _⟩) rfl 96 _ rfl g (o + j * 17) rfl cs HCS.out _ Tryz.underlying96 rfl HI1.out ?_)
                        refine C.out.mono ?_
                        rintro e w' ⟨rfl, hb⟩
                        have HB' : Hid (Below w1.heap.size w1 w') := HB.out.trans (hb.mono HB.out.size)
                        clear hb
                        go_wp2_with fail
                        go_roundw
                        case rel => exact ⟨j + 1, by omega, by go_num, HE, HB'⟩
                        case measure => simp [intOf]; omega
                    · have HE : Hid (b = true) := by show _ = _; rw [← H.out, HX.out, List.drop_eq_nil_of_le (by omega)]; rfl
                      have HBF := Lib.hid (HB1.out.trans (HB.out.mono HB1.out.size))
                      clear HX
                      go_wp2_with fail
                      go_ret
                      exact ⟨by rw [HE.out]; rfl, HBF.out⟩
              · have d6 : decide (r.head.args.length ≤ k) = true := by simp; omega
                rw [List.getElem?_eq_none (by omega)] at hag
                simp only at hag
                rw [hag, Bool.false_and] at h
                subst h
                clear hag h8
                go_enter Tryz.func22, Tryz.ntmps22
                go_wp2_with fail
                refine (CA.out _ HB0.out).mono ?_
                rintro r w1 ⟨rfl, hb⟩
                have HB1 : Hid (Below w.heap.size w w1) := HB0.out.trans (hb.mono HB0.out.size)
                have HO1 := Lib.hid (HO0.out.below hb)
                clear hb
                have c1 := HO1.out.cell 1
                have c2 := HO1.out.cell 2
                have c3 := HO1.out.cell 3
                have c4 := HO1.out.cell 4
                simp only [List.getElem?_cons_zero, List.getElem?_cons_succ] at c1 c2 c3 c4
                go_wp2_with fail
                go_ret
                exact ⟨rfl, HB1.out⟩
        · have d4 : decide (4 < r.agg) = true := by simp; omega
          have hf : aggB r = false := by
            unfold aggB
            rw [if_neg (fun e => by omega), decide_eq_false (by omega), Bool.false_and]
          rw [hf, Bool.false_and] at h
          subst h
          clear hf h8 h0 h4
          go_enter Tryz.func22, Tryz.ntmps22
          go_wp2_with fail
          refine (CA.out _ HB0.out).mono ?_
          rintro r w1 ⟨rfl, hb⟩
          have HB1 : Hid (Below w.heap.size w w1) := HB0.out.trans (hb.mono HB0.out.size)
          have HO1 := Lib.hid (HO0.out.below hb)
          clear hb
          have c1 := HO1.out.cell 1
          have c2 := HO1.out.cell 2
          have c3 := HO1.out.cell 3
          have c4 := HO1.out.cell 4
          simp only [List.getElem?_cons_zero, List.getElem?_cons_succ] at c1 c2 c3 c4
          go_wp2_with fail
          go_ret
          exact ⟨rfl, HB1.out⟩
    · have d8 : decide (8 < r.body.length) = true := by simp; omega
      have d8i : decide ((8 : Int) < (r.body.length : Int)) = true := by simp; omega
      rw [decide_eq_false h8, Bool.false_and, Bool.and_false] at h
      subst h
      clear h8
      go_enter Tryz.func22, Tryz.ntmps22
      go_wp2_with fail
      refine (CA.out _ HB0.out).mono ?_
      rintro r w1 ⟨rfl, hb⟩
      have HB1 : Hid (Below w.heap.size w w1) := HB0.out.trans (hb.mono HB0.out.size)
      have HO1 := Lib.hid (HO0.out.below hb)
      clear hb
      have c1 := HO1.out.cell 1
      have c2 := HO1.out.cell 2
      have c3 := HO1.out.cell 3
      have c4 := HO1.out.cell 4
      simp only [List.getElem?_cons_zero, List.getElem?_cons_succ] at c1 c2 c3 c4
      go_wp2_with fail
      go_ret
      exact ⟨rfl, HB1.out⟩
end Go.Proofs.YtlfakhjcpdkaiaaGreatDoor

set_option linter.unusedVariables false
set_option linter.unusedSimpArgs false
namespace Go.Proofs.YtlfakhjcpdkaiaaGreatDoor
open Go.RowKit Go.Deep Go.Shelf

theorem same_step {α : Type} [DecidableEq α] {l l' : List α} {j : Nat} (h : j < l.length) (h' : j < l'.length) : decide (l.drop j = l'.drop j) = (decide (l[j] = l'[j]) && decide (l.drop (j + 1) = l'.drop (j + 1))) := by
  rw [List.drop_eq_getElem_cons h, List.drop_eq_getElem_cons h']
  simp only [List.cons.injEq, Bool.decide_and]
theorem wpList_store_new2 {P : Program} {ops : Array Oper} {rest : List Oper} {o : Oper} {a : Act} {w : World} {o1 : Obj} {Q : Exit → Act → World → Prop} (hgd : o.guard = none) (ty : TypeId) (x y : Operand) (ho : o.op = .store ty x y)
    (cells : Array Value) (hx : a.eval x = .pointer (some ⟨w.heap.size + 1, 0, none⟩)) (hy : a.eval y = .agg cells) (t : TypeId) (old : Array Value) (hi : (P.info? ty).map (·.size) = some cells.size)
    (hold : old.size = cells.size) (h1 : cells.all (·.oneCell') = true)
    (h : wpList P ops Q rest (a.put o.dst undef) ((w.alloc o1).alloc (.cells cells t))) : wpList P ops Q (o :: rest) a ((w.alloc o1).alloc (.cells old t)) :=
  wpList_store_new (w := w.alloc o1) hgd ty x y ho cells (by rw [World.size_alloc]; exact hx) hy t old hi hold h1 h
theorem txt_beq (s t : ByteArray) : (s.toList == t.toList) = decide (s = t) := by
  by_cases h : s = t
  · subst h
    simp
  · rw [decide_eq_false h, beq_eq_false_iff_ne]
    exact fun e => h (toList_inj' e)
theorem len_beq {a b : Nat} : ((a : Int) == (b : Int)) = decide (a = b) := by
  by_cases h : a = b
  · subst h; simp
  · rw [decide_eq_false h, beq_eq_false_iff_ne]
    omega
/-- two elements at an index, and what a function says of them. -/
def EqX (w : World) (K : Nat) (A A' : Option Addr) (f : FuncId) (j : Nat) (b : Bool) : Prop :=
  ∃ (b1 o1 b2 o2 : Nat) (cs ds : List Value), A = some ⟨b1, o1, none⟩ ∧ A' = some ⟨b2, o2, none⟩ ∧ b1 < w.heap.size ∧ b2 < w.heap.size ∧ cs.length = K ∧ ds.length = K ∧ cs.toArray.all (·.oneCell') = true ∧ ds.toArray.all (·.oneCell') = true ∧
    (∀ (i : Nat) v, cs[i]? = some v → w.cell? ⟨b1, o1 + j * K + i, none⟩ = some v) ∧ (∀ (i : Nat) v, ds[i]? = some v → w.cell? ⟨b2, o2 + j * K + i, none⟩ = some v) ∧
    ∀ W, Below w.heap.size w W → Calls Tryz.prog f #[.agg cs.toArray, .agg ds.toArray] W fun r w' => r = .returned (.bool b) ∧ Below W.heap.size W w'
theorem infoTde : (Tryz.prog.info? 62).map (·.size) = some 3 := by kernel_rfl
theorem infoTru : (Tryz.prog.info? 54).map (·.size) = some 6 := by kernel_rfl
theorem infoTlt : (Tryz.prog.info? 50).map (·.size) = some 17 := by kernel_rfl
set_option maxRecDepth 100000 in
set_option maxHeartbeats 1000000 in
theorem eqTms_any (A A' : Option Addr) (c c' : Nat) (l l' : List TTm) (w : World) (hV : Rg 4 TmC w A l) (hV' : Rg 4 TmC w A' l') :
    Calls Tryz.prog 66 #[.slice A l.length c, .slice A' l'.length c'] w fun r w' => r = .returned (.bool (decide (l = l'))) ∧ Below w.heap.size w w' := by
  have HV := Lib.hid hV
  have HV' := Lib.hid hV'
  have hlen := hV.1
  have hlen' := hV'.1
  clear hV hV'
  by_cases hm : l.length = l'.length
  · have e1 : ((l.length : Int) == (l'.length : Int)) = true := by rw [len_beq, decide_eq_true hm]
    have e2 : ((l.length : Int) != (l'.length : Int)) = false := by simp [bne, e1]
    have HM := Lib.hid hm
    clear hm
    go_enter Tryz.func66, Tryz.ntmps66
    go_wp2_with fail
    clear e1 e2
    go_loopw [13] (fun i wr => ∃ j : Nat, j ≤ l.length ∧ i = .int .i64 j ∧ Hid (decide (l = l') = decide (l.drop j = l'.drop j)) ∧ Hid (Below w.heap.size w wr)) (fun i _ => l.length - (intOf i).toNat)
    case atStart => exact ⟨0, Nat.zero_le _, rfl, Lib.hid rfl, Lib.hid (Below.refl _ _)⟩
    case round =>
      obtain ⟨j, hj, rfl, HX, HB⟩ := hrel
      by_cases hlt : j < l.length
      · have hlt' : j < l'.length := by rw [← HM.out]; exact hlt
        obtain ⟨g, o, rfl, hgw, hc⟩ := HV.out.at_ hlt
        obtain ⟨g', o', rfl, hgw', hc'⟩ := HV'.out.at_ hlt'
        have HE := Lib.hid (HX.out.trans (same_step hlt hlt'))
        have hli : (0 : Int) ≤ (j : Int) := by omega
        have hlj : (j : Int) < (l.length : Int) := by omega
        have hlj' : (j : Int) < (l'.length : Int) := by omega
        obtain ⟨c0, c1, c2, c3, _⟩ := hc.pers (Pers.of HB.out)
        obtain ⟨d0, d1, d2, d3, _⟩ := hc'.pers (Pers.of HB.out)
        clear HX
        generalize l[j] = x at *
        generalize l'[j] = y at *
        by_cases hxy : x = y
        · have kq := neTm x y true (decide_eq_true hxy)
          have kq := fun w => kq w
          rw [decide_eq_true hxy, Bool.true_and] at HE
          clear hxy
          go_wp2_with fail
          go_quiet (fail)
          go_wp2_with fail
          go_roundw
          case rel => exact ⟨j + 1, by omega, by go_num, HE, below_drewN HB.out _⟩
          case measure => simp [intOf]; omega
        · have kq := neTm x y false (decide_eq_false hxy)
          rw [decide_eq_false hxy, Bool.false_and] at HE
          clear hxy
          go_wp2_with fail
          go_quiet (fail)
          go_wp2_with fail
          go_ret
          exact ⟨by rw [HE.out]; rfl, below_drewN HB.out _⟩
      · have HF : Hid (decide (l = l') = true) := by show _ = _; rw [HX.out, List.drop_eq_nil_of_le (by omega), List.drop_eq_nil_of_le (by have := HM.out; omega)]; simp
        clear HX
        go_wp2_with fail
        go_ret
        exact ⟨by rw [HF.out]; rfl, HB.out⟩
  · have e1 : ((l.length : Int) == (l'.length : Int)) = false := by rw [len_beq, decide_eq_false hm]
    have e2 : ((l.length : Int) != (l'.length : Int)) = true := by simp [bne, e1]
    have HF : Hid (decide (l = l') = false) := by show _ = _; exact decide_eq_false (fun e => hm (by rw [e]))
    clear hm
    go_enter Tryz.func66, Tryz.ntmps66
    go_wp2_with fail
    go_ret
    exact ⟨by rw [HF.out]; rfl, Below.refl _ _⟩
set_option maxRecDepth 100000 in
set_option maxHeartbeats 1000000 in
theorem eqKds_any (A A' : Option Addr) (c c' : Nat) (l l' : List Int) (w : World) (hV : Rg 1 IntC w A l) (hV' : Rg 1 IntC w A' l') :
    Calls Tryz.prog 46 #[.slice A l.length c, .slice A' l'.length c'] w fun r w' => r = .returned (.bool (decide (l = l'))) ∧ Below w.heap.size w w' := by
  have HV := Lib.hid hV
  have HV' := Lib.hid hV'
  have hlen := hV.1
  have hlen' := hV'.1
  clear hV hV'
  by_cases hm : l.length = l'.length
  · have e1 : ((l.length : Int) == (l'.length : Int)) = true := by rw [len_beq, decide_eq_true hm]
    have e2 : ((l.length : Int) != (l'.length : Int)) = false := by simp [bne, e1]
    have HM := Lib.hid hm
    clear hm
    go_enter Tryz.func46, Tryz.ntmps46
    go_wp2_with fail
    clear e1 e2
    go_loopw [13] (fun i wr => ∃ j : Nat, j ≤ l.length ∧ i = .int .i64 j ∧ Hid (decide (l = l') = decide (l.drop j = l'.drop j)) ∧ Hid (Below w.heap.size w wr)) (fun i _ => l.length - (intOf i).toNat)
    case atStart => exact ⟨0, Nat.zero_le _, rfl, Lib.hid rfl, Lib.hid (Below.refl _ _)⟩
    case round =>
      obtain ⟨j, hj, rfl, HX, HB⟩ := hrel
      by_cases hlt : j < l.length
      · have hlt' : j < l'.length := by rw [← HM.out]; exact hlt
        obtain ⟨g, o, rfl, hgw, hc⟩ := HV.out.at_ hlt
        obtain ⟨g', o', rfl, hgw', hc'⟩ := HV'.out.at_ hlt'
        have HE := Lib.hid (HX.out.trans (same_step hlt hlt'))
        have hli : (0 : Int) ≤ (j : Int) := by omega
        have hlj : (j : Int) < (l.length : Int) := by omega
        have hlj' : (j : Int) < (l'.length : Int) := by omega
        have c0 := hc.pers_int (Pers.of HB.out)
        have d0 := hc'.pers_int (Pers.of HB.out)
        unfold IntC at c0 d0
        rw [Nat.mul_one] at c0 d0
        clear hc hc'
        clear HX
        generalize l[j] = x at *
        generalize l'[j] = y at *
        by_cases hxy : x = y
        · have q1 : (x == y) = true := by simp [hxy]
          have q2 : (x != y) = false := by simp [hxy]
          rw [decide_eq_true hxy, Bool.true_and] at HE
          clear hxy
          go_wp2_with fail
          go_quiet (fail)
          go_wp2_with fail
          go_roundw
          case rel => exact ⟨j + 1, by omega, by go_num, HE, below_drewN HB.out _⟩
          case measure => simp [intOf]; omega
        · have q1 : (x == y) = false := by simp [hxy]
          have q2 : (x != y) = true := by simp [hxy]
          rw [decide_eq_false hxy, Bool.false_and] at HE
          clear hxy
          go_wp2_with fail
          go_quiet (fail)
          go_wp2_with fail
          go_ret
          exact ⟨by rw [HE.out]; rfl, below_drewN HB.out _⟩
      · have HF : Hid (decide (l = l') = true) := by show _ = _; rw [HX.out, List.drop_eq_nil_of_le (by omega), List.drop_eq_nil_of_le (by have := HM.out; omega)]; simp
        clear HX
        go_wp2_with fail
        go_ret
        exact ⟨by rw [HF.out]; rfl, HB.out⟩
  · have e1 : ((l.length : Int) == (l'.length : Int)) = false := by rw [len_beq, decide_eq_false hm]
    have e2 : ((l.length : Int) != (l'.length : Int)) = true := by simp [bne, e1]
    have HF : Hid (decide (l = l') = false) := by show _ = _; exact decide_eq_false (fun e => hm (by rw [e]))
    clear hm
    go_enter Tryz.func46, Tryz.ntmps46
    go_wp2_with fail
    go_ret
    exact ⟨by rw [HF.out]; rfl, Below.refl _ _⟩
end Go.Proofs.YtlfakhjcpdkaiaaGreatDoor
