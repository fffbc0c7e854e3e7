/- What a program is made of, in memory: rows of terms, expressions, literals, rules; it stays as long as what was there stays. Conditions: none. -/
import Derived.Test.YtikohamfnnlhcaaGreatDoorPcTermA
set_option linter.unusedVariables false
set_option linter.unusedSimpArgs false
namespace Go.Proofs.YtikohamfnnlhcaaGreatDoor
open Go.RowKit Go.Deep Go.Shelf

/-- whatever is there, stays. -/
def Pers (w w' : World) : Prop := w.heap.size ≤ w'.heap.size ∧ ∀ p v, w.cell? p = some v → w'.cell? p = some v
theorem Pers.refl (w : World) : Pers w w := ⟨Nat.le_refl _, fun _ _ h => h⟩
theorem Pers.trans {a b c : World} (h : Pers a b) (h' : Pers b c) : Pers a c := ⟨Nat.le_trans h.1 h'.1, fun p v hp => h'.2 p v (h.2 p v hp)⟩
theorem Pers.of {w w' : World} (h : Below w.heap.size w w') : Pers w w' := ⟨h.size, fun p v hp => (h.cell (World.block_lt_of_cell? w p hp)).trans hp⟩
theorem Pers.calm {w w' : World} {B : Nat} (h : Calm B w w') : Pers w w' := ⟨h.size, fun _ _ hp => h.cell hp⟩

def TmC (w : World) (b o : Nat) (t : TTm) : Prop :=
  w.cell? ⟨b, o, none⟩ = some (.string t.v) ∧ w.cell? ⟨b, o + 1, none⟩ = some (.int .i64 t.k) ∧ w.cell? ⟨b, o + 2, none⟩ = some (.int .i64 t.n) ∧ w.cell? ⟨b, o + 3, none⟩ = some (.string t.s) ∧ okTm t
/-- a row of things, each of so many cells. -/
def Rg {α : Type} (st : Nat) (Q : World → Nat → Nat → α → Prop) (w : World) (A : Option Addr) (l : List α) : Prop :=
  l.length ≤ 140737488351232 ∧ (0 < l.length → ∃ b o, A = some ⟨b, o, none⟩ ∧ b < w.heap.size ∧ ∀ i y, l[i]? = some y → Q w b (o + i * st) y)
theorem Rg.pers {α : Type} {st : Nat} {Q : World → Nat → Nat → α → Prop} {w w' : World} {A : Option Addr} {l : List α} (hQ : ∀ b o y, Q w b o y → Q w' b o y) (h : Rg st Q w A l) (hp : Pers w w') : Rg st Q w' A l :=
  ⟨h.1, fun h0 => by
    obtain ⟨b, o, h1, h2, h3⟩ := h.2 h0
    exact ⟨b, o, h1, Nat.lt_of_lt_of_le h2 hp.1, fun i y hy => hQ _ _ _ (h3 i y hy)⟩⟩
theorem Rg.nil {α : Type} {st : Nat} {Q : World → Nat → Nat → α → Prop} {w : World} {A : Option Addr} : Rg st Q w A [] := ⟨Nat.zero_le _, fun h => absurd h (Nat.lt_irrefl _)⟩
theorem Rg.at_ {α : Type} {st : Nat} {Q : World → Nat → Nat → α → Prop} {w : World} {A : Option Addr} {l : List α} (h : Rg st Q w A l) {k : Nat} (hk : k < l.length) :
    ∃ b o, A = some ⟨b, o, none⟩ ∧ b < w.heap.size ∧ Q w b (o + k * st) l[k] := by
  obtain ⟨b, o, h1, h2, h3⟩ := h.2 (by omega)
  exact ⟨b, o, h1, h2, h3 k _ (List.getElem?_eq_getElem hk)⟩
/-- an expression in memory. -/
inductive ExC (w : World) : Nat → Nat → TEx → Prop where
  | mk {b o : Nat} {op : Int} {t : TTm} {ks : List TEx} {A : Option Addr} {c : Nat} (bA oA : Nat) (h0 : w.cell? ⟨b, o, none⟩ = some (.int .i64 op)) (h1 : TmC w b (o + 1) t) (h5 : w.cell? ⟨b, o + 5, none⟩ = some (.slice A ks.length c))
      (hl : ks.length ≤ 140737488351232) (hA : 0 < ks.length → A = some ⟨bA, oA, none⟩ ∧ bA < w.heap.size) (hk : ∀ i y, ks[i]? = some y → ExC w bA (oA + i * 6) y) : ExC w b o (.mk op t ks)
def AmC (w : World) (b o : Nat) (a : TAm) : Prop :=
  w.cell? ⟨b, o, none⟩ = some (.string a.rel) ∧ (∃ A c, w.cell? ⟨b, o + 1, none⟩ = some (.slice A a.args.length c) ∧ Rg 4 TmC w A a.args) ∧ a.rel.size ≤ 140737488351232
def LtC (w : World) (b o : Nat) (x : TLt) : Prop :=
  w.cell? ⟨b, o, none⟩ = some (.int .i64 x.kind) ∧ AmC w b (o + 1) x.atom ∧ w.cell? ⟨b, o + 3, none⟩ = some (.int .i64 x.op) ∧ ExC w b (o + 4) x.left ∧ ExC w b (o + 10) x.right ∧ w.cell? ⟨b, o + 16, none⟩ = some (.int .i64 x.pos) ∧
    -9223372036854775808 ≤ x.kind ∧ x.kind ≤ 9223372036854775807
def RuC (w : World) (b o : Nat) (r : TRu) : Prop :=
  AmC w b o r.head ∧ w.cell? ⟨b, o + 2, none⟩ = some (.int .i64 r.agg) ∧ w.cell? ⟨b, o + 3, none⟩ = some (.int .i64 r.col) ∧ (∃ A c, w.cell? ⟨b, o + 4, none⟩ = some (.slice A r.body.length c) ∧ Rg 17 LtC w A r.body) ∧
    w.cell? ⟨b, o + 5, none⟩ = some (.int .i64 r.pos)
def IntC (w : World) (b o : Nat) (n : Int) : Prop := w.cell? ⟨b, o, none⟩ = some (.int .i64 n)
def DeC (w : World) (b o : Nat) (d : TDe) : Prop :=
  w.cell? ⟨b, o, none⟩ = some (.string d.rel) ∧ (∃ A c, w.cell? ⟨b, o + 1, none⟩ = some (.slice A d.kinds.length c) ∧ Rg 1 IntC w A d.kinds) ∧ w.cell? ⟨b, o + 2, none⟩ = some (.int .i64 d.pos) ∧ d.rel.size ≤ 140737488351232

section
variable {w w' : World}
theorem TmC.pers (hp : Pers w w') {b o : Nat} {t : TTm} (h : TmC w b o t) : TmC w' b o t := ⟨hp.2 _ _ h.1, hp.2 _ _ h.2.1, hp.2 _ _ h.2.2.1, hp.2 _ _ h.2.2.2.1, h.2.2.2.2⟩
theorem ExC.pers (hp : Pers w w') {b o : Nat} {e : TEx} (h : ExC w b o e) : ExC w' b o e := by
  induction h with
  | mk bA oA h0 h1 h5 hl hA hk ih => exact .mk bA oA (hp.2 _ _ h0) (h1.pers hp) (hp.2 _ _ h5) hl (fun h => ⟨(hA h).1, Nat.lt_of_lt_of_le (hA h).2 hp.1⟩) ih
theorem Rg.tm (hp : Pers w w') {A : Option Addr} {l : List TTm} (h : Rg 4 TmC w A l) : Rg 4 TmC w' A l := h.pers (fun _ _ _ h => h.pers hp) hp
theorem Rg.ex (hp : Pers w w') {A : Option Addr} {l : List TEx} (h : Rg 6 ExC w A l) : Rg 6 ExC w' A l := h.pers (fun _ _ _ h => h.pers hp) hp
theorem AmC.pers (hp : Pers w w') {b o : Nat} {a : TAm} (h : AmC w b o a) : AmC w' b o a := by
  obtain ⟨h0, ⟨A, c, h1, h2⟩, h3⟩ := h
  exact ⟨hp.2 _ _ h0, ⟨A, c, hp.2 _ _ h1, h2.tm hp⟩, h3⟩
theorem LtC.pers (hp : Pers w w') {b o : Nat} {x : TLt} (h : LtC w b o x) : LtC w' b o x :=
  ⟨hp.2 _ _ h.1, h.2.1.pers hp, hp.2 _ _ h.2.2.1, h.2.2.2.1.pers hp, h.2.2.2.2.1.pers hp, hp.2 _ _ h.2.2.2.2.2.1, h.2.2.2.2.2.2⟩
theorem Rg.lt (hp : Pers w w') {A : Option Addr} {l : List TLt} (h : Rg 17 LtC w A l) : Rg 17 LtC w' A l := h.pers (fun _ _ _ h => h.pers hp) hp
theorem RuC.pers (hp : Pers w w') {b o : Nat} {r : TRu} (h : RuC w b o r) : RuC w' b o r := by
  obtain ⟨h0, h1, h2, ⟨A, c, h3, h4⟩, h5⟩ := h
  exact ⟨h0.pers hp, hp.2 _ _ h1, hp.2 _ _ h2, ⟨A, c, hp.2 _ _ h3, h4.lt hp⟩, hp.2 _ _ h5⟩
theorem Rg.ru (hp : Pers w w') {A : Option Addr} {l : List TRu} (h : Rg 6 RuC w A l) : Rg 6 RuC w' A l := h.pers (fun _ _ _ h => h.pers hp) hp
theorem Rg.int (hp : Pers w w') {A : Option Addr} {l : List Int} (h : Rg 1 IntC w A l) : Rg 1 IntC w' A l := h.pers (fun _ _ _ h => hp.2 _ _ h) hp
theorem DeC.pers (hp : Pers w w') {b o : Nat} {d : TDe} (h : DeC w b o d) : DeC w' b o d := by
  obtain ⟨h0, ⟨A, c, h1, h2⟩, h3, h4⟩ := h
  exact ⟨hp.2 _ _ h0, ⟨A, c, hp.2 _ _ h1, h2.int hp⟩, hp.2 _ _ h3, h4⟩
theorem Rg.de (hp : Pers w w') {A : Option Addr} {l : List TDe} (h : Rg 3 DeC w A l) : Rg 3 DeC w' A l := h.pers (fun _ _ _ h => h.pers hp) hp
end

/-- the values themselves. -/
abbrev tmV (t : TTm) : Value := .agg #[.string t.v, .int .i64 t.k, .int .i64 t.n, .string t.s]
abbrev exV (e : TEx) (A : Option Addr) (c : Nat) : Value := .agg #[.int .i64 e.op, .string e.t.v, .int .i64 e.t.k, .int .i64 e.t.n, .string e.t.s, .slice A e.kids.length c]
abbrev amV (a : TAm) (A : Option Addr) (c : Nat) : Value := .agg #[.string a.rel, .slice A a.args.length c]
/-- an expression's value: its own parts, and its children in memory. -/
structure ExV (w : World) (e : TEx) (A : Option Addr) : Prop where
  ok : okTm e.t
  row : Rg 6 ExC w A e.kids
theorem ExV.pers {w w' : World} {e : TEx} {A : Option Addr} (h : ExV w e A) (hp : Pers w w') : ExV w' e A := ⟨h.ok, h.row.ex hp⟩
theorem ExV.below {w w' : World} {e : TEx} {A : Option Addr} (h : ExV w e A) (hb : Below w.heap.size w w') : ExV w' e A := h.pers (.of hb)
/-- what the cells of an expression say. -/
theorem ExC.open_ {w : World} {b o : Nat} {e : TEx} (h : ExC w b o e) : ∃ A c, w.cell? ⟨b, o, none⟩ = some (.int .i64 e.op) ∧ w.cell? ⟨b, o + 1, none⟩ = some (.string e.t.v) ∧ w.cell? ⟨b, o + 2, none⟩ = some (.int .i64 e.t.k) ∧
    w.cell? ⟨b, o + 3, none⟩ = some (.int .i64 e.t.n) ∧ w.cell? ⟨b, o + 4, none⟩ = some (.string e.t.s) ∧ w.cell? ⟨b, o + 5, none⟩ = some (.slice A e.kids.length c) ∧ ExV w e A := by
  cases h with
  | mk bA oA h0 h1 h5 hl hA hk => exact ⟨_, _, h0, h1.1, h1.2.1, h1.2.2.1, h1.2.2.2.1, h5, h1.2.2.2.2, hl, fun h => ⟨bA, oA, (hA h).1, (hA h).2, hk⟩⟩
theorem ExC.shut {w : World} {b o c : Nat} {e : TEx} {A : Option Addr} (h0 : w.cell? ⟨b, o, none⟩ = some (.int .i64 e.op)) (h1 : w.cell? ⟨b, o + 1, none⟩ = some (.string e.t.v)) (h2 : w.cell? ⟨b, o + 2, none⟩ = some (.int .i64 e.t.k))
    (h3 : w.cell? ⟨b, o + 3, none⟩ = some (.int .i64 e.t.n)) (h4 : w.cell? ⟨b, o + 4, none⟩ = some (.string e.t.s)) (h5 : w.cell? ⟨b, o + 5, none⟩ = some (.slice A e.kids.length c)) (hV : ExV w e A) : ExC w b o e := by
  cases e with
  | mk op t ks =>
    obtain ⟨ho, hl, hr⟩ := hV
    by_cases hk : 0 < ks.length
    · obtain ⟨b', o', e1, e2, e3⟩ := hr hk
      exact .mk b' o' h0 ⟨h1, h2, h3, h4, ho⟩ h5 hl (fun _ => ⟨e1, e2⟩) e3
    · refine .mk 0 0 h0 ⟨h1, h2, h3, h4, ho⟩ h5 hl (fun h => absurd h hk) fun i y hy => ?_
      have : ks = [] := List.eq_nil_of_length_eq_zero (by omega)
      subst this
      cases hy
theorem ExC.okE {w : World} {b o : Nat} {e : TEx} (h : ExC w b o e) : okE e := by
  induction h with
  | mk bA oA h0 h1 h5 hl hA hk ih => rw [Go.Proofs.YtikohamfnnlhcaaGreatDoor.okE]; exact ⟨h1.2.2.2.2, okEs_of ih⟩
theorem ExV.okE {w : World} {e : TEx} {A : Option Addr} (h : ExV w e A) : okE e := by
  cases e with
  | mk op t ks =>
    rw [Go.Proofs.YtikohamfnnlhcaaGreatDoor.okE]
    refine ⟨h.ok, okEs_of fun i y hy => ?_⟩
    obtain ⟨b, o, _, _, h3⟩ := h.row.2 (by have := (List.getElem?_eq_some_iff.1 hy).1; exact Nat.lt_of_le_of_lt (Nat.zero_le _) this)
    exact (h3 i y hy).okE
/-- an atom's value. -/
structure AmV (w : World) (a : TAm) (A : Option Addr) : Prop where
  ok : a.rel.size ≤ 140737488351232
  row : Rg 4 TmC w A a.args
theorem AmV.pers {w w' : World} {a : TAm} {A : Option Addr} (h : AmV w a A) (hp : Pers w w') : AmV w' a A := ⟨h.ok, h.row.tm hp⟩
theorem AmV.below {w w' : World} {a : TAm} {A : Option Addr} (h : AmV w a A) (hb : Below w.heap.size w w') : AmV w' a A := h.pers (.of hb)
/-- a literal's value. -/
abbrev ltV (x : TLt) (A : Option Addr) (c : Nat) (L : Option Addr) (d : Nat) (R : Option Addr) (f : Nat) : Value :=
  .agg #[.int .i64 x.kind, .string x.atom.rel, .slice A x.atom.args.length c, .int .i64 x.op, .int .i64 x.left.op, .string x.left.t.v, .int .i64 x.left.t.k, .int .i64 x.left.t.n, .string x.left.t.s, .slice L x.left.kids.length d,
    .int .i64 x.right.op, .string x.right.t.v, .int .i64 x.right.t.k, .int .i64 x.right.t.n, .string x.right.t.s, .slice R x.right.kids.length f, .int .i64 x.pos]
structure LtV (w : World) (x : TLt) (A L R : Option Addr) : Prop where
  am : AmV w x.atom A
  left : ExV w x.left L
  right : ExV w x.right R
  lo : -9223372036854775808 ≤ x.kind
  hi : x.kind ≤ 9223372036854775807
theorem LtV.pers {w w' : World} {x : TLt} {A L R : Option Addr} (h : LtV w x A L R) (hp : Pers w w') : LtV w' x A L R := ⟨h.am.pers hp, h.left.pers hp, h.right.pers hp, h.lo, h.hi⟩
theorem LtV.below {w w' : World} {x : TLt} {A L R : Option Addr} (h : LtV w x A L R) (hb : Below w.heap.size w w') : LtV w' x A L R := h.pers (.of hb)
/-- the cells of a literal. -/
def LtF (w : World) (b o : Nat) (x : TLt) (A : Option Addr) (c : Nat) (L : Option Addr) (d : Nat) (R : Option Addr) (f : Nat) : Prop :=
  w.cell? ⟨b, o, none⟩ = some (.int .i64 x.kind) ∧ w.cell? ⟨b, o + 1, none⟩ = some (.string x.atom.rel) ∧ w.cell? ⟨b, o + 2, none⟩ = some (.slice A x.atom.args.length c) ∧ w.cell? ⟨b, o + 3, none⟩ = some (.int .i64 x.op) ∧
  (w.cell? ⟨b, o + 4, none⟩ = some (.int .i64 x.left.op) ∧ w.cell? ⟨b, o + 5, none⟩ = some (.string x.left.t.v) ∧ w.cell? ⟨b, o + 6, none⟩ = some (.int .i64 x.left.t.k) ∧ w.cell? ⟨b, o + 7, none⟩ = some (.int .i64 x.left.t.n) ∧ w.cell? ⟨b, o + 8, none⟩ = some (.string x.left.t.s) ∧ w.cell? ⟨b, o + 9, none⟩ = some (.slice L x.left.kids.length d)) ∧
  (w.cell? ⟨b, o + 10, none⟩ = some (.int .i64 x.right.op) ∧ w.cell? ⟨b, o + 11, none⟩ = some (.string x.right.t.v) ∧ w.cell? ⟨b, o + 12, none⟩ = some (.int .i64 x.right.t.k) ∧ w.cell? ⟨b, o + 13, none⟩ = some (.int .i64 x.right.t.n) ∧ w.cell? ⟨b, o + 14, none⟩ = some (.string x.right.t.s) ∧ w.cell? ⟨b, o + 15, none⟩ = some (.slice R x.right.kids.length f)) ∧
  w.cell? ⟨b, o + 16, none⟩ = some (.int .i64 x.pos)
theorem LtC.open_ {w : World} {b o : Nat} {x : TLt} (h : LtC w b o x) : ∃ A c L d R f, LtF w b o x A c L d R f ∧ LtV w x A L R := by
  obtain ⟨h0, ⟨h1, ⟨A, c, h2, h3⟩, h4⟩, h5, h6, h7, h8, h9, h10⟩ := h
  obtain ⟨L, d, l0, l1, l2, l3, l4, l5, l6⟩ := h6.open_
  obtain ⟨R, f, r0, r1, r2, r3, r4, r5, r6⟩ := h7.open_
  exact ⟨A, c, L, d, R, f, ⟨h0, h1, h2, h5, ⟨l0, l1, l2, l3, l4, l5⟩, ⟨r0, r1, r2, r3, r4, r5⟩, h8⟩, ⟨h4, h3⟩, l6, r6, h9, h10⟩
theorem LtC.shut {w : World} {b o : Nat} {x : TLt} {A : Option Addr} {c : Nat} {L : Option Addr} {d : Nat} {R : Option Addr} {f : Nat} (h : LtF w b o x A c L d R f) (hv : LtV w x A L R) : LtC w b o x := by
  obtain ⟨h0, h1, h2, h3, ⟨l0, l1, l2, l3, l4, l5⟩, ⟨r0, r1, r2, r3, r4, r5⟩, h8⟩ := h
  exact ⟨h0, ⟨h1, ⟨A, c, h2, hv.am.row⟩, hv.am.ok⟩, h3, .shut l0 l1 l2 l3 l4 l5 hv.left, .shut r0 r1 r2 r3 r4 r5 hv.right, h8, hv.lo, hv.hi⟩
/-- a rule's value. -/
abbrev ruV (r : TRu) (A : Option Addr) (c : Nat) (B : Option Addr) (d : Nat) : Value := .agg #[.string r.head.rel, .slice A r.head.args.length c, .int .i64 r.agg, .int .i64 r.col, .slice B r.body.length d, .int .i64 r.pos]
structure RuV (w : World) (r : TRu) (A B : Option Addr) : Prop where
  am : AmV w r.head A
  row : Rg 17 LtC w B r.body
theorem RuV.pers {w w' : World} {r : TRu} {A B : Option Addr} (h : RuV w r A B) (hp : Pers w w') : RuV w' r A B := ⟨h.am.pers hp, h.row.lt hp⟩
theorem RuV.below {w w' : World} {r : TRu} {A B : Option Addr} (h : RuV w r A B) (hb : Below w.heap.size w w') : RuV w' r A B := h.pers (.of hb)
theorem RuC.open_ {w : World} {b o : Nat} {r : TRu} (h : RuC w b o r) : ∃ A c B d, w.cell? ⟨b, o, none⟩ = some (.string r.head.rel) ∧ w.cell? ⟨b, o + 1, none⟩ = some (.slice A r.head.args.length c) ∧ w.cell? ⟨b, o + 2, none⟩ = some (.int .i64 r.agg) ∧
    w.cell? ⟨b, o + 3, none⟩ = some (.int .i64 r.col) ∧ w.cell? ⟨b, o + 4, none⟩ = some (.slice B r.body.length d) ∧ w.cell? ⟨b, o + 5, none⟩ = some (.int .i64 r.pos) ∧ RuV w r A B := by
  obtain ⟨⟨h0, ⟨A, c, h1, h2⟩, h3⟩, h4, h5, ⟨B, d, h6, h7⟩, h8⟩ := h
  exact ⟨A, c, B, d, h0, h1, h4, h5, h6, h8, ⟨h3, h2⟩, h7⟩
theorem RuC.shut {w : World} {b o c d : Nat} {r : TRu} {A B : Option Addr} (h0 : w.cell? ⟨b, o, none⟩ = some (.string r.head.rel)) (h1 : w.cell? ⟨b, o + 1, none⟩ = some (.slice A r.head.args.length c)) (h2 : w.cell? ⟨b, o + 2, none⟩ = some (.int .i64 r.agg))
    (h3 : w.cell? ⟨b, o + 3, none⟩ = some (.int .i64 r.col)) (h4 : w.cell? ⟨b, o + 4, none⟩ = some (.slice B r.body.length d)) (h5 : w.cell? ⟨b, o + 5, none⟩ = some (.int .i64 r.pos)) (hv : RuV w r A B) : RuC w b o r :=
  ⟨⟨h0, ⟨A, c, h1, hv.am.row⟩, hv.am.ok⟩, h2, h3, ⟨B, d, h4, hv.row⟩, h5⟩
/-- a program's value. -/
abbrev pgV (p : TPg) (A : Option Addr) (c : Nat) (B : Option Addr) (d : Nat) : Value := .agg #[.slice A p.decls.length c, .slice B p.rules.length d]
structure PgV (w : World) (p : TPg) (A B : Option Addr) : Prop where
  decls : Rg 3 DeC w A p.decls
  rules : Rg 6 RuC w B p.rules
theorem PgV.pers {w w' : World} {p : TPg} {A B : Option Addr} (h : PgV w p A B) (hp : Pers w w') : PgV w' p A B := ⟨h.decls.de hp, h.rules.ru hp⟩
theorem PgV.below {w w' : World} {p : TPg} {A B : Option Addr} (h : PgV w p A B) (hb : Below w.heap.size w w') : PgV w' p A B := h.pers (.of hb)
end Go.Proofs.YtikohamfnnlhcaaGreatDoor
