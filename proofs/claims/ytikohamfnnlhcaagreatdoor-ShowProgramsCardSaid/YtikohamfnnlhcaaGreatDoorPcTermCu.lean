/- The law's copy of a rule in the document's form. Conditions: at most 30,000 nodes, terms and literals. -/
import Derived.Test.YtikohamfnnlhcaaGreatDoorPcTermCl
set_option linter.unusedVariables false
set_option linter.unusedSimpArgs false
namespace Go.Proofs.YtikohamfnnlhcaaGreatDoor
open Go.RowKit Go.Deep Go.Shelf

theorem infoRru : (Tryz.prog.info? 70).map (·.size) = some 6 := by kernel_rfl
theorem infoRl : (Tryz.prog.info? 77).map (fun i => (i.zero, i.size, i.bytes)) = some (some (.agg #[.int .i64 0, .string noText, .slice none 0 0, .int .i64 0, .int .i64 0, .string noText, .int .i64 0, .int .i64 0, .string noText, .slice none 0 0, .int .i64 0, .string noText, .int .i64 0, .int .i64 0, .string noText, .slice none 0 0, .int .i64 0]), 17, 224) := by kernel_rfl
theorem split17 {α : Type} {l : List α} (h : l.length = 17) : ∃ u0 u1 u2 u3 u4 u5 u6 u7 u8 u9 u10 u11 u12 u13 u14 u15 u16, l = [u0, u1, u2, u3, u4, u5, u6, u7, u8, u9, u10, u11, u12, u13, u14, u15, u16] := by
  match l, h with
  | [u0, u1, u2, u3, u4, u5, u6, u7, u8, u9, u10, u11, u12, u13, u14, u15, u16], _ => exact ⟨_, _, _, _, _, _, _, _, _, _, _, _, _, _, _, _, _, rfl⟩
/-- no row of terms lies in a rule's block. -/
theorem am_off {W : World} {b : Nat} {T : TypeId} {a : TAm} {A : Option Addr} {s : ByteArray} {A1 A2 : Option Addr} {n1 c1 n2 c2 : Nat} {i1 i2 i3 : Int} (hO : Own W b T [.string s, .slice A1 n1 c1, .int .i64 i1, .int .i64 i2, .slice A2 n2 c2, .int .i64 i3]) (h : AmV W a A) (h0 : 0 < a.args.length) : ∀ ad, A = some ad → ad.block ≠ b := by
  intro ad had e
  obtain ⟨g, o, h1, _, h3⟩ := h.row.2 h0
  rw [had] at h1
  injection h1 with h1
  subst h1
  have hb : g = b := e
  subst hb
  obtain ⟨d0, d1, _⟩ := h3 0 _ (List.getElem?_eq_getElem h0)
  rw [Nat.zero_mul, Nat.add_zero, hO.cell] at d0
  rw [Nat.zero_mul, Nat.add_zero, hO.cell] at d1
  match o, d0, d1 with
  | 0, _, d1 => simp at d1
  | 1, d0, _ => simp at d0
  | 2, d0, _ => simp at d0
  | 3, d0, _ => simp at d0
  | 4, d0, _ => simp at d0
  | 5, d0, _ => simp at d0
  | n + 6, d0, _ => simp at d0
theorem am_stab' {W : World} {a : TAm} {A : Option Addr} {P : Nat → Prop} (h : AmV W a A) (hA : 0 < a.args.length → ∀ ad, A = some ad → P ad.block) : Stab W P (fun W => AmV W a A) := by
  by_cases h0 : 0 < a.args.length
  · exact am_stab h (hA h0)
  · exact fun w' _ _ => ⟨h.ok, h.row.1, fun h1 => absurd h1 h0⟩
/-- a rule's copy. -/
def GotR (w : World) (r : TRu) (e : Ending) (w' : World) : Prop := ∃ A c B d, e = .returned (ruV r A c B d) ∧ Stab w' (fun k => w.heap.size ≤ k) (fun W => RuV W r A B) ∧ Below w.heap.size w w'
def rcD (k : Nat) : Nat := ([6, 7, 8, 9, 10, 11, 12, 13, 14, 15, 3] : List Nat).getD k 0
def RcF (r : TRu) (A : Option Addr) (c : Nat) (n0 b1 : Nat) : Nat → Value → World → Prop
  | 0, v, _ => v = .pointer (some ⟨b1, 0, none⟩)
  | 1, v, _ => v = .agg #[.string r.head.rel, .slice A r.head.args.length c]
  | 2, v, W => ∃ A2 c2, v = .agg #[.string r.head.rel, .slice A2 r.head.args.length c2] ∧ AmV W r.head A2 ∧ ∀ ad, A2 = some ad → n0 ≤ ad.block
  | 3, v, _ => v = .pointer (some ⟨b1, 2, none⟩)
  | 4, v, _ => v = .int .i64 r.agg
  | 5, v, _ => v = .pointer (some ⟨b1, 3, none⟩)
  | 6, v, _ => v = .int .i64 r.col
  | 7, v, _ => v = .pointer (some ⟨b1, 5, none⟩)
  | 8, v, _ => v = .int .i64 r.pos
  | 9, v, W => ∃ A2 c2, v = .agg #[.string r.head.rel, .slice A2 r.head.args.length c2, .int .i64 r.agg, .int .i64 r.col, .slice none 0 0, .int .i64 r.pos] ∧ AmV W r.head A2 ∧ ∀ ad, A2 = some ad → n0 ≤ ad.block
  | 10, v, W => ∃ b, v = .pointer (some ⟨b, 0, none⟩) ∧ Own W b 70 [.string noText, .slice none 0 0, .int .i64 0, .int .i64 0, .slice none 0 0, .int .i64 0] ∧ n0 ≤ b
  | _, _, _ => False
theorem RcF.keep {r : TRu} {A : Option Addr} {c n0 b1 : Nat} : ∀ k v X Y, RcF r A c n0 b1 k v X → Below X.heap.size X Y → RcF r A c n0 b1 k v Y
  | 0, _, _, _, h, _ => h
  | 1, _, _, _, h, _ => h
  | 2, _, _, _, ⟨p, q, h1, h2, h3⟩, hb => ⟨p, q, h1, h2.below hb, h3⟩
  | 3, _, _, _, h, _ => h
  | 4, _, _, _, h, _ => h
  | 5, _, _, _, h, _ => h
  | 6, _, _, _, h, _ => h
  | 7, _, _, _, h, _ => h
  | 8, _, _, _, h, _ => h
  | 9, _, _, _, ⟨p, q, h1, h2, h3⟩, hb => ⟨p, q, h1, h2.below hb, h3⟩
  | 10, _, _, _, ⟨p, h1, h2, h3⟩, hb => ⟨p, h1, h2.below hb, h3⟩
  | _ + 11, _, _, _, h, _ => h
set_option maxRecDepth 100000 in
set_option maxHeartbeats 4000000 in
theorem Ruled_copy (r : TRu) (A : Option Addr) (c : Nat) (B : Option Addr) (d : Nat) (w : World) (hsz : r.head.args.length ≤ 30000 ∧ r.body.length ≤ 30000 ∧ ∀ x ∈ r.body, x.atom.args.length ≤ 30000 ∧ cntE x.left ≤ 30000 ∧ cntE x.right ≤ 30000) (hV : RuV w r A B) :
    Calls Tryz.prog 15 #[ruV r A c B d] w (GotR w r) := by
  have mixed : Tryz.prog.follows .mixedOrders = true := by kernel_rfl
  have HV := Lib.hid hV
  have HSz := Lib.hid hsz
  have hbl := hV.row.1
  have o1 : Own (w.alloc (.cells #[.string r.head.rel, .slice A r.head.args.length c, .int .i64 r.agg, .int .i64 r.col, .slice B r.body.length d, .int .i64 r.pos] 52)) w.heap.size 52 [.string r.head.rel, .slice A r.head.args.length c, .int .i64 r.agg, .int .i64 r.col, .slice B r.body.length d, .int .i64 r.pos] := heap_alloc_new _ _
  have o2 := heap_alloc_new (w.alloc (.cells #[.string r.head.rel, .slice A r.head.args.length c, .int .i64 r.agg, .int .i64 r.col, .slice B r.body.length d, .int .i64 r.pos] 52)) (.cells #[.string noText, .slice none 0 0, .int .i64 0, .int .i64 0, .slice none 0 0, .int .i64 0] 70)
  simp only [World.size_alloc] at o2
  have HO1 := Lib.hid (o1.alloc (.cells #[.string noText, .slice none 0 0, .int .i64 0, .int .i64 0, .slice none 0 0, .int .i64 0] 70))
  have HO2 : Hid (Own ((w.alloc (.cells #[.string r.head.rel, .slice A r.head.args.length c, .int .i64 r.agg, .int .i64 r.col, .slice B r.body.length d, .int .i64 r.pos] 52)).alloc (.cells #[.string noText, .slice none 0 0, .int .i64 0, .int .i64 0, .slice none 0 0, .int .i64 0] 70)) (w.heap.size + 1) 70 [.string noText, .slice none 0 0, .int .i64 0, .int .i64 0, .slice none 0 0, .int .i64 0]) := o2
  have HB0 : Hid (Below w.heap.size w ((w.alloc (.cells #[.string r.head.rel, .slice A r.head.args.length c, .int .i64 r.agg, .int .i64 r.col, .slice B r.body.length d, .int .i64 r.pos] 52)).alloc (.cells #[.string noText, .slice none 0 0, .int .i64 0, .int .i64 0, .slice none 0 0, .int .i64 0] 70))) := ((Below.refl _ _).alloc (Nat.le_refl _) _).alloc (by simp) _
  have HS0 : Hid (((w.alloc (.cells #[.string r.head.rel, .slice A r.head.args.length c, .int .i64 r.agg, .int .i64 r.col, .slice B r.body.length d, .int .i64 r.pos] 52)).alloc (.cells #[.string noText, .slice none 0 0, .int .i64 0, .int .i64 0, .slice none 0 0, .int .i64 0] 70)).heap.size = w.heap.size + 2) := by show _ = _; simp
  clear o1 o2 hV hsz
  unfold ruV
  go_enter Tryz.func15, Tryz.ntmps15
  go_wp2_with fail
  obtain ⟨W0, hW0⟩ : ∃ W0, W0 = ((w.alloc (.cells #[.string r.head.rel, .slice A r.head.args.length c, .int .i64 r.agg, .int .i64 r.col, .slice B r.body.length d, .int .i64 r.pos] 52)).alloc (.cells #[.string noText, .slice none 0 0, .int .i64 0, .int .i64 0, .slice none 0 0, .int .i64 0] 70)) := ⟨_, rfl⟩
  rw [← hW0] at HO1 HO2 HB0 HS0
  change (Code.region _ _ _).wp _ _ _ ((w.alloc (.cells #[.string r.head.rel, .slice A r.head.args.length c, .int .i64 r.agg, .int .i64 r.col, .slice B r.body.length d, .int .i64 r.pos] 52)).alloc (.cells #[.string ⟨#[]⟩, .slice none 0 0, .int .i64 0, .int .i64 0, .slice none 0 0, .int .i64 0] 70)) at ⊢
  rw [show ((w.alloc (.cells #[.string r.head.rel, .slice A r.head.args.length c, .int .i64 r.agg, .int .i64 r.col, .slice B r.body.length d, .int .i64 r.pos] 52)).alloc (.cells #[.string ⟨#[]⟩, .slice none 0 0, .int .i64 0, .int .i64 0, .slice none 0 0, .int .i64 0] 70)) = W0 from hW0.symm]
  obtain ⟨b1, hb1⟩ : ∃ b, b = w.heap.size := ⟨_, rfl⟩
  obtain ⟨b2, hb2⟩ : ∃ b, b = w.heap.size + 1 := ⟨_, rfl⟩
  rw [← hb2] at HO2 ⊢
  rw [← hb1] at HO1
  rw [show (Value.pointer (some ⟨w.heap.size, 0, none⟩)) = .pointer (some ⟨b1, 0, none⟩) by rw [hb1]]
  have HB1 := Lib.hid hb1
  have HB2 := Lib.hid hb2
  clear hW0 hb1 hb2
  rename_i K1 hK1
  have H1 : Hid (Value.pointer (some ⟨b1, 0, none⟩) = .pointer (some ⟨b1, 0, none⟩)) := rfl
  refine wp_region_makes (m := 11) (D := rcD) (F := RcF r A c (w.heap.size + 2) b1) mixed rfl ?hac ?hdst ?hinj ?hlt ?hg ?hlast RcF.keep ?hstep ?hfin
  case hac => exact ac_of (by kernel_rfl)
  case hdst => exact dst_of (by kernel_rfl)
  case hinj => exact inj_of (by kernel_rfl)
  case hlt =>
    intro i hi
    exact lt_of (n := 32) (by kernel_rfl) i hi
  case hg => exact guard_of (by kernel_rfl)
  case hlast => exact last_of (by kernel_rfl)
  case hstep =>
    intro i o hi ho a w1 hfr hlow hdep K hK
    have hO1 := HO1.out.below hlow
    have hn0 : w.heap.size + 2 ≤ w1.heap.size := by have := hlow.size; have := HS0.out; omega
    have hV1 := HV.out.below (HB0.out.trans (hlow.mono HB0.out.size))
    match i, hi with
    | 0, _ =>
      simp only [List.getElem?_toArray, List.getElem?_cons_zero, List.getElem?_cons_succ, Option.some.injEq] at ho
      subst ho
      have h1 : a.tmps.getD 1 undef = .pointer (some ⟨b1, 0, none⟩) := (hfr 1 (by decide)).trans H1.out
      refine mk_val (v := .pointer (some ⟨b1, 0, none⟩)) (w' := w1) ?_ (hK _ _ (Below.refl _ _) rfl)
      simp only [execOp, Act.eval, h1]
      kernel_rfl
    | 1, _ =>
      simp only [List.getElem?_toArray, List.getElem?_cons_zero, List.getElem?_cons_succ, Option.some.injEq] at ho
      subst ho
      have h1 : a.tmps.getD 6 undef = .pointer (some ⟨b1, 0, none⟩) := hdep ⟨0, .data⟩ (by simp) rfl
      refine mk_val (v := .agg #[.string r.head.rel, .slice A r.head.args.length c]) (w' := w1) ?_ (hK _ _ (Below.refl _ _) rfl)
      simp only [execOp, Act.eval, h1, Instr.loadAt, Instr.sureAddr, Sem.run_bind, Sem.run_pure, Result.andThen_ok]
      rw [run_loadVar_at w1 b1 0 49 [.string r.head.rel, .slice A r.head.args.length c] _ ?_ Tryz.underlying49 rfl infoTam]
      · rfl
      · intro j v hv
        match j, hv with
        | 0, hv => cases hv; exact hO1.cell 0
        | 1, hv => cases hv; exact hO1.cell 1
        | n + 2, hv => simp at hv
    | 2, _ =>
      simp only [List.getElem?_toArray, List.getElem?_cons_zero, List.getElem?_cons_succ, Option.some.injEq] at ho
      subst ho
      have h1 : a.tmps.getD 7 undef = .agg #[.string r.head.rel, .slice A r.head.args.length c] := hdep ⟨1, .data⟩ (by simp) rfl
      refine mk_call (f := 45) (args := #[.agg #[.string r.head.rel, .slice A r.head.args.length c]]) ?_ ((Atom_copy r.head A c w1 HSz.out.1 hV1.am).mono ?_)
      · simp only [execOp, resolve, Act.eval, List.map_toArray, List.map_cons, List.map_nil, h1]
        kernel_rfl
      · rintro e w' ⟨A2, c2, rfl, hE, hA, hb⟩
        exact ⟨_, rfl, hK _ _ hb ⟨A2, c2, rfl, hE, fun ad had => Nat.le_trans hn0 (hA ad had)⟩⟩
    | 3, _ =>
      simp only [List.getElem?_toArray, List.getElem?_cons_zero, List.getElem?_cons_succ, Option.some.injEq] at ho
      subst ho
      have h1 : a.tmps.getD 1 undef = .pointer (some ⟨b1, 0, none⟩) := (hfr 1 (by decide)).trans H1.out
      refine mk_val (v := .pointer (some ⟨b1, 2, none⟩)) (w' := w1) ?_ (hK _ _ (Below.refl _ _) rfl)
      simp only [execOp, Act.eval, h1]
      kernel_rfl
    | 4, _ =>
      simp only [List.getElem?_toArray, List.getElem?_cons_zero, List.getElem?_cons_succ, Option.some.injEq] at ho
      subst ho
      have h1 : a.tmps.getD 9 undef = .pointer (some ⟨b1, 2, none⟩) := hdep ⟨3, .data⟩ (by simp) rfl
      refine mk_val (v := .int .i64 r.agg) (w' := w1) ?_ (hK _ _ (Below.refl _ _) rfl)
      simp only [execOp, Act.eval, h1, Instr.loadAt, Instr.sureAddr, Sem.run_bind, Sem.run_pure, Result.andThen_ok]
      rw [run_loadVar_one w1 b1 2 3 (.int .i64 r.agg) _ (hO1.cell 2) Tryz.underlying3 rfl]
      rfl
    | 5, _ =>
      simp only [List.getElem?_toArray, List.getElem?_cons_zero, List.getElem?_cons_succ, Option.some.injEq] at ho
      subst ho
      have h1 : a.tmps.getD 1 undef = .pointer (some ⟨b1, 0, none⟩) := (hfr 1 (by decide)).trans H1.out
      refine mk_val (v := .pointer (some ⟨b1, 3, none⟩)) (w' := w1) ?_ (hK _ _ (Below.refl _ _) rfl)
      simp only [execOp, Act.eval, h1]
      kernel_rfl
    | 6, _ =>
      simp only [List.getElem?_toArray, List.getElem?_cons_zero, List.getElem?_cons_succ, Option.some.injEq] at ho
      subst ho
      have h1 : a.tmps.getD 11 undef = .pointer (some ⟨b1, 3, none⟩) := hdep ⟨5, .data⟩ (by simp) rfl
      refine mk_val (v := .int .i64 r.col) (w' := w1) ?_ (hK _ _ (Below.refl _ _) rfl)
      simp only [execOp, Act.eval, h1, Instr.loadAt, Instr.sureAddr, Sem.run_bind, Sem.run_pure, Result.andThen_ok]
      rw [run_loadVar_one w1 b1 3 3 (.int .i64 r.col) _ (hO1.cell 3) Tryz.underlying3 rfl]
      rfl
    | 7, _ =>
      simp only [List.getElem?_toArray, List.getElem?_cons_zero, List.getElem?_cons_succ, Option.some.injEq] at ho
      subst ho
      have h1 : a.tmps.getD 1 undef = .pointer (some ⟨b1, 0, none⟩) := (hfr 1 (by decide)).trans H1.out
      refine mk_val (v := .pointer (some ⟨b1, 5, none⟩)) (w' := w1) ?_ (hK _ _ (Below.refl _ _) rfl)
      simp only [execOp, Act.eval, h1]
      kernel_rfl
    | 8, _ =>
      simp only [List.getElem?_toArray, List.getElem?_cons_zero, List.getElem?_cons_succ, Option.some.injEq] at ho
      subst ho
      have h1 : a.tmps.getD 13 undef = .pointer (some ⟨b1, 5, none⟩) := hdep ⟨7, .data⟩ (by simp) rfl
      refine mk_val (v := .int .i64 r.pos) (w' := w1) ?_ (hK _ _ (Below.refl _ _) rfl)
      simp only [execOp, Act.eval, h1, Instr.loadAt, Instr.sureAddr, Sem.run_bind, Sem.run_pure, Result.andThen_ok]
      rw [run_loadVar_one w1 b1 5 3 (.int .i64 r.pos) _ (hO1.cell 5) Tryz.underlying3 rfl]
      rfl
    | 9, _ =>
      simp only [List.getElem?_toArray, List.getElem?_cons_zero, List.getElem?_cons_succ, Option.some.injEq] at ho
      subst ho
      obtain ⟨A2, c2, h1, s1, s2⟩ : RcF r A c (w.heap.size + 2) b1 2 (a.tmps.getD 8 undef) w1 := hdep ⟨2, .data⟩ (by simp) rfl
      have h2 : a.tmps.getD 10 undef = .int .i64 r.agg := hdep ⟨4, .data⟩ (by simp) rfl
      have h3 : a.tmps.getD 12 undef = .int .i64 r.col := hdep ⟨6, .data⟩ (by simp) rfl
      have h4 : a.tmps.getD 14 undef = .int .i64 r.pos := hdep ⟨8, .data⟩ (by simp) rfl
      refine mk_val (v := .agg #[.string r.head.rel, .slice A2 r.head.args.length c2, .int .i64 r.agg, .int .i64 r.col, .slice none 0 0, .int .i64 r.pos]) (w' := w1) ?_ (hK _ _ (Below.refl _ _) ⟨A2, c2, rfl, s1, s2⟩)
      simp only [execOp, Act.eval, List.map_toArray, List.map_cons, List.map_nil, h1, h2, h3, h4]
      kernel_rfl
    | 10, _ =>
      simp only [List.getElem?_toArray, List.getElem?_cons_zero, List.getElem?_cons_succ, Option.some.injEq] at ho
      subst ho
      refine mk_val (v := .pointer (some ⟨w1.heap.size, 0, none⟩)) (w' := w1.alloc (.cells #[.string noText, .slice none 0 0, .int .i64 0, .int .i64 0, .slice none 0 0, .int .i64 0] 70)) ?_ (hK _ _ ((Below.refl _ _).alloc (Nat.le_refl _) _) ⟨_, rfl, heap_alloc_new _ _, hn0⟩)
      simp only [execOp, Act.eval, List.map_toArray, List.map_cons, List.map_nil, Nat.add_zero]
      kernel_rfl
    | n + 11, h => omega
  case hfin =>
    intro o ho a w1 hdf hsz hfr hlow hall
    simp only [List.getElem?_toArray, List.getElem?_cons_zero, List.getElem?_cons_succ, Option.some.injEq] at ho
    subst ho
    obtain ⟨A2, c2, h15, s1, s2⟩ : RcF r A c (w.heap.size + 2) b1 9 (a.tmps.getD 15 undef) w1 := hall 9 (by decide)
    obtain ⟨b3, h3, hO3, hb3⟩ : RcF r A c (w.heap.size + 2) b1 10 (a.tmps.getD 3 undef) w1 := hall 10 (by decide)
    have h1 : a.tmps.getD 1 undef = .pointer (some ⟨b1, 0, none⟩) := (hfr 1 (by decide)).trans rfl
    have h2 : a.tmps.getD 2 undef = .pointer (some ⟨b2, 0, none⟩) := (hfr 2 (by decide)).trans rfl
    have hO1 := HO1.out.below hlow
    have hO2 := HO2.out.below hlow
    have hB1 := HB1.out
    have hB2 := HB2.out
    have hS0 := HS0.out
    have hls := hlow.size
    refine wp_store_row 70 (.tmp 3) (.tmp 15) rfl b3 #[.string r.head.rel, .slice A2 r.head.args.length c2, .int .i64 r.agg, .int .i64 r.col, .slice none 0 0, .int .i64 r.pos] h3 h15 70 #[.string noText, .slice none 0 0, .int .i64 0, .int .i64 0, .slice none 0 0, .int .i64 0] hO3 infoRru rfl (by simp [Value.oneCell']) ?_
    have hrow := setRow_heap w1 b3 _ #[.string r.head.rel, .slice A2 r.head.args.length c2, .int .i64 r.agg, .int .i64 r.col, .slice none 0 0, .int .i64 r.pos] _ _ hO3
    have hkr : Kept [b3] w1 (w1.setRow b3 #[.string r.head.rel, .slice A2 r.head.args.length c2, .int .i64 r.agg, .int .i64 r.col, .slice none 0 0, .int .i64 r.pos]) := ⟨rfl, rfl, rfl, by simp, fun k _ hn => setRow_other w1 b3 k _ (by simpa using hn)⟩
    have hbel : Below w.heap.size w (w1.setRow b3 #[.string r.head.rel, .slice A2 r.head.args.length c2, .int .i64 r.agg, .int .i64 r.col, .slice none 0 0, .int .i64 r.pos]) := (HB0.out.trans (hlow.mono HB0.out.size)).trans (hkr.below (by omega) (fun k hk => by simp only [List.mem_singleton] at hk; omega))
    have hst : Stab (w1.setRow b3 #[.string r.head.rel, .slice A2 r.head.args.length c2, .int .i64 r.agg, .int .i64 r.col, .slice none 0 0, .int .i64 r.pos]) (fun k => w.heap.size + 2 ≤ k ∧ k < (w1.setRow b3 #[.string r.head.rel, .slice A2 r.head.args.length c2, .int .i64 r.agg, .int .i64 r.col, .slice none 0 0, .int .i64 r.pos]).heap.size ∧ k ≠ b3) (fun W => AmV W r.head A2) :=
      (am_stab' (P := fun k => w.heap.size + 2 ≤ k ∧ k < (w1.setRow b3 #[.string r.head.rel, .slice A2 r.head.args.length c2, .int .i64 r.agg, .int .i64 r.col, .slice none 0 0, .int .i64 r.pos]).heap.size ∧ k ≠ b3) s1 (fun h0 ad had => by
        have q1 := s2 ad had
        have q2 := am_off hO3 s1 h0 ad had
        obtain ⟨g, o', e1, e2, _⟩ := s1.row.2 h0
        rw [had] at e1
        injection e1 with e1
        subst e1
        have q3 := hkr.size
        exact ⟨q1, by show g < _; omega, q2⟩)).keep hkr.size (fun k hkw hp => hkr.block k hkw (by simpa using hp.2.2)) (fun _ _ h => h)
    have HO1' := Lib.hid (hkr.own hO1 (by simp only [List.mem_singleton]; omega))
    have hO2' := hkr.own hO2 (by simp only [List.mem_singleton]; omega)
    have hrow' : Own (w1.setRow b3 #[.string r.head.rel, .slice A2 r.head.args.length c2, .int .i64 r.agg, .int .i64 r.col, .slice none 0 0, .int .i64 r.pos]) b3 70 [.string r.head.rel, .slice A2 r.head.args.length c2, .int .i64 r.agg, .int .i64 r.col, .slice none 0 0, .int .i64 r.pos] := hrow
    have hX0 : CpI 17 77 70 FLt 0 (w1.setRow b3 #[.string r.head.rel, .slice A2 r.head.args.length c2, .int .i64 r.agg, .int .i64 r.col, .slice none 0 0, .int .i64 r.pos]).heap.size w b2 b3 [.string noText, .slice none 0 0, .int .i64 0, .int .i64 0, .slice none 0 0, .int .i64 0] [.string r.head.rel, .slice A2 r.head.args.length c2, .int .i64 r.agg, .int .i64 r.col, .slice none 0 0, .int .i64 r.pos] (.slice none 0 0) (r.body.take 0) [] (w1.setRow b3 #[.string r.head.rel, .slice A2 r.head.args.length c2, .int .i64 r.agg, .int .i64 r.col, .slice none 0 0, .int .i64 r.pos]) :=
      ⟨hrow', hO2', GR.nil _, Nat.zero_le _, hrow'.lt, Nat.le_refl _, hbel, by omega, by omega⟩
    obtain ⟨bs, hbs⟩ : ∃ bs, bs = (w1.setRow b3 #[.string r.head.rel, .slice A2 r.head.args.length c2, .int .i64 r.agg, .int .i64 r.col, .slice none 0 0, .int .i64 r.pos]).heap.size := ⟨_, rfl⟩
    rw [← hbs] at hst hX0
    have HX0 := Lib.hid hX0
    have HST := Lib.hid hst
    clear hX0 hst hrow hrow' hO2' hO2 hO1 hbel hkr hbs
    generalize w1.setRow b3 #[.string r.head.rel, .slice A2 r.head.args.length c2, .int .i64 r.agg, .int .i64 r.col, .slice none 0 0, .int .i64 r.pos] = W2 at HX0 HST HO1' ⊢
    refine hK1 _ _ ?_
    clear hK1 hlow hall hfr h15 s1 s2 hO3 hB1 hB2 hS0 hls
    have g4 := HO1'.out.cell 4
    have q1 := HO1'.out.lt
    simp only [List.getElem?_cons_zero, List.getElem?_cons_succ] at g4
    obtain ⟨⟨l⟩, df⟩ := a
    simp only [Act.put] at hdf hsz h1 h2 h3 ⊢
    subst hdf
    change l.length = 32 at hsz
    obtain ⟨t0, l0, rfl, hz0⟩ := cons_of hsz
    obtain ⟨t1, l1, rfl, hz1⟩ := cons_of hz0
    obtain ⟨t2, l2, rfl, hz2⟩ := cons_of hz1
    obtain ⟨t3, l3, rfl, hz3⟩ := cons_of hz2
    obtain ⟨t4, l4, rfl, hz4⟩ := cons_of hz3
    obtain ⟨t5, l5, rfl, hz5⟩ := cons_of hz4
    obtain ⟨t6, l6, rfl, hz6⟩ := cons_of hz5
    obtain ⟨t7, l7, rfl, hz7⟩ := cons_of hz6
    obtain ⟨t8, l8, rfl, hz8⟩ := cons_of hz7
    obtain ⟨t9, l9, rfl, hz9⟩ := cons_of hz8
    obtain ⟨t10, l10, rfl, hz10⟩ := cons_of hz9
    obtain ⟨t11, l11, rfl, hz11⟩ := cons_of hz10
    obtain ⟨t12, l12, rfl, hz12⟩ := cons_of hz11
    obtain ⟨t13, l13, rfl, hz13⟩ := cons_of hz12
    obtain ⟨t14, l14, rfl, hz14⟩ := cons_of hz13
    obtain ⟨t15, l15, rfl, hz15⟩ := cons_of hz14
    obtain ⟨t16, l16, rfl, hz16⟩ := cons_of hz15
    obtain ⟨t17, l17, rfl, hz17⟩ := cons_of hz16
    obtain ⟨t18, l18, rfl, hz18⟩ := cons_of hz17
    obtain ⟨t19, l19, rfl, hz19⟩ := cons_of hz18
    obtain ⟨t20, l20, rfl, hz20⟩ := cons_of hz19
    obtain ⟨t21, l21, rfl, hz21⟩ := cons_of hz20
    obtain ⟨t22, l22, rfl, hz22⟩ := cons_of hz21
    obtain ⟨t23, l23, rfl, hz23⟩ := cons_of hz22
    obtain ⟨t24, l24, rfl, hz24⟩ := cons_of hz23
    obtain ⟨t25, l25, rfl, hz25⟩ := cons_of hz24
    obtain ⟨t26, l26, rfl, hz26⟩ := cons_of hz25
    obtain ⟨t27, l27, rfl, hz27⟩ := cons_of hz26
    obtain ⟨t28, l28, rfl, hz28⟩ := cons_of hz27
    obtain ⟨t29, l29, rfl, hz29⟩ := cons_of hz28
    obtain ⟨t30, l30, rfl, hz30⟩ := cons_of hz29
    obtain ⟨t31, l31, rfl, hz31⟩ := cons_of hz30
    obtain rfl : l31 = [] := List.eq_nil_of_length_eq_zero hz31
    clear hsz hz0 hz1 hz2 hz3 hz4 hz5 hz6 hz7 hz8 hz9 hz10 hz11 hz12 hz13 hz14 hz15 hz16 hz17 hz18 hz19 hz20 hz21 hz22 hz23 hz24 hz25 hz26 hz27 hz28 hz29 hz30 hz31
    have h1' : t1 = .pointer (some ⟨b1, 0, none⟩) := h1
    have h2' : t2 = .pointer (some ⟨b2, 0, none⟩) := h2
    have h3' : t3 = .pointer (some ⟨b3, 0, none⟩) := h3
    clear h1 h2 h3
    subst h1' h2' h3'
    go_wp2_with fail
    clear g4 q1
    go_loopw [19] (fun i wr => ∃ (j : Nat) (vv : Value) (css : List (List Value)), j ≤ r.body.length ∧ i = .int .i64 j ∧ Hid (CpI 17 77 70 FLt 0 bs w b2 b3 [.string noText, .slice none 0 0, .int .i64 0, .int .i64 0, .slice none 0 0, .int .i64 0] [.string r.head.rel, .slice A2 r.head.args.length c2, .int .i64 r.agg, .int .i64 r.col, vv, .int .i64 r.pos] vv (r.body.take j) css wr) ∧ Hid (Stab wr (fun k => w.heap.size + 2 ≤ k ∧ k < bs ∧ k ≠ b3) (fun W => AmV W r.head A2))) (fun i _ => r.body.length - (intOf i).toNat)
    case atStart => exact ⟨0, _, _, Nat.zero_le _, rfl, HX0, HST⟩
    case round =>
      obtain ⟨j, vv, css, hj, rfl, HX, HS⟩ := hrel
      have hb30 := HSz.out.2.1
      have x4 := HX.out.own.cell 4
      have xq := HX.out.own.lt
      simp only [List.getElem?_cons_zero, List.getElem?_cons_succ] at x4
      by_cases hlt : j < r.body.length
      · obtain ⟨b, o, rfl, hbw, hc⟩ := HV.out.row.at_ hlt
        have hT := take_snoc' hlt
        have hsz := HSz.out.2.2 r.body[j] (List.getElem_mem hlt)
        have hlj : (r.body.take j).length = j := by rw [List.length_take]; omega
        obtain ⟨A1, c1, L1, d1, R1, f1, hF, hLV⟩ := (hc.pers (Pers.of HX.out.bel)).open_
        generalize r.body[j] = y at hT hsz hF hLV
        obtain ⟨cs, hcs⟩ : ∃ cs, cs = ltL y A1 c1 L1 d1 R1 f1 := ⟨_, rfl⟩
        have HCS : Hid (∀ (i : Nat) v, cs[i]? = some v → wr.cell? ⟨b, o + j * 17 + i, none⟩ = some v) := fun i v hv => by
          rw [hcs] at hv
          obtain ⟨e0, e1, e2, e3, ⟨e4, e5, e6, e7, e8, e9⟩, ⟨e10, e11, e12, e13, e14, e15⟩, e16⟩ := hF
          match i, hv with
          | 0, hv => cases hv; exact e0
          | 1, hv => cases hv; exact e1
          | 2, hv => cases hv; exact e2
          | 3, hv => cases hv; exact e3
          | 4, hv => cases hv; exact e4
          | 5, hv => cases hv; exact e5
          | 6, hv => cases hv; exact e6
          | 7, hv => cases hv; exact e7
          | 8, hv => cases hv; exact e8
          | 9, hv => cases hv; exact e9
          | 10, hv => cases hv; exact e10
          | 11, hv => cases hv; exact e11
          | 12, hv => cases hv; exact e12
          | 13, hv => cases hv; exact e13
          | 14, hv => cases hv; exact e14
          | 15, hv => cases hv; exact e15
          | 16, hv => cases hv; exact e16
          | n + 17, hv => simp [ltL] at hv
        have HCL : Hid (cs.length = 17) := by show _ = _; rw [hcs]; rfl
        have HOS : Hid ((17 : Nat) = cs.toArray.size) := by show _ = _; rw [List.size_toArray, HCL.out]
        have HON : Hid (cs.toArray.all (·.oneCell') = true) := by show _ = _; rw [hcs]; simp [ltL, Value.oneCell']
        have HI1 : Hid ((Tryz.prog.info? 63).map (·.size) = some cs.length) := by show _ = _; rw [HCL.out]; exact infoLit
        have HI2 : Hid ((Tryz.prog.info? 63).map (·.size) = some cs.toArray.size) := by show _ = _; rw [List.size_toArray, HCL.out]; exact infoLit
        have HC : Hid (∀ W, Below wr.heap.size wr W → Calls Tryz.prog 16 #[.agg cs.toArray] W (GotLc W y)) := fun W hb => by
          rw [hcs]
          exact Literal_copy y A1 c1 L1 d1 R1 f1 W hsz (hLV.below hb)
        have HBX : Hid (∀ (i : Nat) v, cs[i]? = some v → (wr.alloc (.cells cs.toArray 63)).drew.cell? ⟨wr.heap.size, 0 + i, none⟩ = some v) := fun i v hv => by
          rw [Nat.zero_add]
          have ho : Own (wr.alloc (.cells cs.toArray 63)) wr.heap.size 63 cs := heap_alloc_new _ _
          exact (ho.cell i).trans hv
        have HLJ := Lib.hid hlj
        have HT := Lib.hid hT
        clear hc hT hsz hF hLV hcs hlj
        go_wp2_with (first
          | (refine wpList_load_at (o := ⟨some 22, _, _, _, _, _⟩) rfl 63 _ rfl b (o + j * 17) rfl cs HCS.out _ Tryz.underlying63 rfl HI1.out ?_)
          | (refine wpList_store_new (o := ⟨none, .store 63 _ _, _, _, _, _⟩) rfl 63 _ _ rfl cs.toArray rfl rfl 63 _ HI2.out HOS.out HON.out ?_))
        have hwx : Below wr.heap.size wr (wr.alloc (.cells cs.toArray 63)).drew := ((Below.refl _ _).alloc (Nat.le_refl _) _).drew
        have HWX := Lib.hid hwx
        clear hwx
        obtain ⟨u0, u1, u2, u3, u4, u5, u6, u7, u8, u9, u10, u11, u12, u13, u14, u15, u16, hcs⟩ := split17 HCL.out
        subst hcs
        go_region_law (first
          | (refine step_run (o := ⟨some 28, _, _, _, _, _⟩) rfl (.tmp 24) (.tmp 27) 68 rfl rfl _ _ rfl rfl hrun ?_)
          | (refine step_call (o := ⟨some 26, _, _, _, _, _⟩) rfl (f := 16) (args := #[.agg #[u0, u1, u2, u3, u4, u5, u6, u7, u8, u9, u10, u11, u12, u13, u14, u15, u16]]) (by simp only [execOp, resolve, Act.eval, List.map_toArray, List.map_cons, List.map_nil]; kernel_rfl) ((HC.out _ HWX.out).mono ?_)
             rintro e w3 ⟨A3, c3, L3, d3, R3, f3, rfl, hE, hb3⟩
             refine ⟨_, rfl, ?_⟩
             have hb13 : Below wr.heap.size wr w3 := HWX.out.trans (hb3.mono HWX.out.size)
             have hbx := (HX.out.below hb13).below ((Below.refl w3.heap.size w3).alloc (o := .cells #[.int .i64 y.kind, .string y.atom.rel, .slice A3 y.atom.args.length c3, .int .i64 y.op, .int .i64 y.left.op, .string y.left.t.v, .int .i64 y.left.t.k, .int .i64 y.left.t.n, .string y.left.t.s, .slice L3 y.left.kids.length d3, .int .i64 y.right.op, .string y.right.t.v, .int .i64 y.right.t.k, .int .i64 y.right.t.n, .string y.right.t.s, .slice R3 y.right.kids.length f3, .int .i64 y.pos] 77) (Nat.le_refl _))
             have hna : (w3.alloc (.cells #[.int .i64 y.kind, .string y.atom.rel, .slice A3 y.atom.args.length c3, .int .i64 y.op, .int .i64 y.left.op, .string y.left.t.v, .int .i64 y.left.t.k, .int .i64 y.left.t.n, .string y.left.t.s, .slice L3 y.left.kids.length d3, .int .i64 y.right.op, .string y.right.t.v, .int .i64 y.right.t.k, .int .i64 y.right.t.n, .string y.right.t.s, .slice R3 y.right.kids.length f3, .int .i64 y.pos] 77)).heap.size = w3.heap.size + 1 := by simp
             have hst : Stab (w3.alloc (.cells #[.int .i64 y.kind, .string y.atom.rel, .slice A3 y.atom.args.length c3, .int .i64 y.op, .int .i64 y.left.op, .string y.left.t.v, .int .i64 y.left.t.k, .int .i64 y.left.t.n, .string y.left.t.s, .slice L3 y.left.kids.length d3, .int .i64 y.right.op, .string y.right.t.v, .int .i64 y.right.t.k, .int .i64 y.right.t.n, .string y.right.t.s, .slice R3 y.right.kids.length f3, .int .i64 y.pos] 77)) (fun k => (k < 0 ∨ bs ≤ k) ∧ some k ≠ vv.ownBlock) (fun W => FLt W (ltL y A3 c3 L3 d3 R3 f3) y) :=
               (hE.below ((Below.refl w3.heap.size w3).alloc (o := .cells #[.int .i64 y.kind, .string y.atom.rel, .slice A3 y.atom.args.length c3, .int .i64 y.op, .int .i64 y.left.op, .string y.left.t.v, .int .i64 y.left.t.k, .int .i64 y.left.t.n, .string y.left.t.s, .slice L3 y.left.kids.length d3, .int .i64 y.right.op, .string y.right.t.v, .int .i64 y.right.t.k, .int .i64 y.right.t.n, .string y.right.t.s, .slice R3 y.right.kids.length f3, .int .i64 y.pos] 77) (Nat.le_refl _))).keep (Nat.le_refl _) (fun _ _ _ => rfl) (fun k hk hp => by
                 have q1 := HWX.out.size
                 have q2 := HX.out.sz
                 refine ⟨.inr (by omega), fun e => ?_⟩
                 have q3 := (HX.out.row.lt k e.symm).2
                 simp at q1 hp
                 omega) |>.imp (fun W h => ⟨A3, c3, L3, d3, R3, f3, rfl, h⟩)
             obtain ⟨A4, c4, w5, hrun, hblk, hsz5, hN⟩ := hbx.app (P := Tryz.prog) (S := 68) Tryz.underlying68 infoRl rfl (by decide) y (ltL y A3 c3 L3 d3 R3 f3) rfl (by simp [ltL, Value.oneCell']) (heap_alloc_new _ _) hst (by rw [HLJ.out]; omega) (by decide)
             rw [HLJ.out] at hrun hN
             rw [HT.out] at hN
             have y5 := (hblk b3 (by rw [hna]; have := hb13.size; omega) HX.out.boxOff).trans ((((Below.refl w3.heap.size w3).alloc (Nat.le_refl _) _).block b3 (by have := hb13.size; omega)).trans (hb13.block b3 xq))
             have hq5 : b3 < w5.heap.size := by rw [hna] at hsz5; have := hb13.size; omega
             have y4 : w5.cell? ⟨b3, 4, none⟩ = some vv := (World.cell?_of_block (w := wr) y5).trans x4
             have yf : w5.frozen? ⟨b3, 4, none⟩ = false := Own.frozen (y5.trans HX.out.own) 4
             have z4 : w3.cell? ⟨b3, 4, none⟩ = some vv := (hb13.cell (p := ⟨b3, 4, none⟩) xq).trans x4
             have zq : b3 < w3.heap.size := by have := hb13.size; omega
             have HN := Lib.hid (hN 4).1
             have HSN : Hid (Stab (w5.setCell ⟨b3, 4, none⟩ (.slice A4 (j + 1) c4)) (fun k => w.heap.size + 2 ≤ k ∧ k < bs ∧ k ≠ b3) (fun W => AmV W r.head A2)) :=
               HS.out.keep (by have := hb13.size; rw [hna] at hsz5; simp; omega) (fun k hk hp => ((hN 4).2 k hp.2.1 hp.2.2).trans ((((Below.refl w3.heap.size w3).alloc (Nat.le_refl _) _).block k (by have := hb13.size; omega)).trans (hb13.block k hk))) (fun _ _ h => h)
             clear hN hblk hbx hst y5 hsz5 hna hE hb3 hb13))
        all_goals
          go_wp2
          go_roundw
          case rel => exact ⟨j + 1, _, _, by omega, by go_num, HN, HSN⟩
          case measure => simp [intOf]; omega
      · have hjk : j = r.body.length := by omega
        obtain ⟨A3, c3, hv3⟩ := HX.out.row.val
        subst hv3
        subst hjk
        have hX := HX.out
        rw [List.take_length] at hX
        have HOo := Lib.hid hX.own
        have HRs := Lib.hid hX.res
        have HXX := Lib.hid hX
        clear x4 hX HX
        go_wp2_with (first
          | (refine wpList_load_row (o := ⟨some 31, _, _, _, _, _⟩) rfl 70 _ rfl b3 rfl 70 #[.string r.head.rel, .slice A2 r.head.args.length c2, .int .i64 r.agg, .int .i64 r.col, .slice A3 r.body.length c3, .int .i64 r.pos] (0, 0) _ HOo.out Tryz.underlying70 rfl infoRru ?_)
          | (refine wpList_store_row (o := ⟨none, .store 70 _ _, _, _, _, _⟩) rfl 70 _ _ rfl b2 #[.string r.head.rel, .slice A2 r.head.args.length c2, .int .i64 r.agg, .int .i64 r.col, .slice A3 r.body.length c3, .int .i64 r.pos] rfl rfl 70 _ HRs.out infoRru rfl (by simp [Value.oneCell']) ?_))
        have hrow := setRow_heap wr b2 _ #[.string r.head.rel, .slice A2 r.head.args.length c2, .int .i64 r.agg, .int .i64 r.col, .slice A3 r.body.length c3, .int .i64 r.pos] _ _ HRs.out
        have hkr : Kept [b2] wr (wr.setRow b2 #[.string r.head.rel, .slice A2 r.head.args.length c2, .int .i64 r.agg, .int .i64 r.col, .slice A3 r.body.length c3, .int .i64 r.pos]) := ⟨rfl, rfl, rfl, by simp, fun k _ hn => setRow_other wr b2 k _ (by simpa using hn)⟩
        obtain ⟨q2, q3⟩ := HXX.out.done FLt.c hbl hkr
        have q4 := HXX.out.lo
        have q5 := HXX.out.lt
        have q6 := HXX.out.lb
        have q7 := HXX.out.sz
        have q8 := HB2.out
        have hst : Stab (wr.setRow b2 #[.string r.head.rel, .slice A2 r.head.args.length c2, .int .i64 r.agg, .int .i64 r.col, .slice A3 r.body.length c3, .int .i64 r.pos]) (fun k => w.heap.size ≤ k) (fun W => RuV W r A2 A3) :=
          ((HS.out.keep (P' := fun k => w.heap.size ≤ k) hkr.size (fun k hk hp => hkr.block k hk (by simp only [List.mem_singleton]; omega)) (fun k _ h => by omega)).and (q2.more (fun k _ hp => by rcases hp with hp | hp <;> omega))).imp (fun W h => ⟨h.1, h.2⟩)
        refine bodyPost_ret (v := .agg #[.string r.head.rel, .slice A2 r.head.args.length c2, .int .i64 r.agg, .int .i64 r.col, .slice A3 r.body.length c3, .int .i64 r.pos]) (results_cell_row (P := Tryz.prog) rfl _ _ b2 70 _ (0, 0) _ rfl hrow Tryz.underlying70 rfl infoRru) rfl ?_
        exact ⟨A2, c2, A3, c3, rfl, hst, q3⟩
end Go.Proofs.YtikohamfnnlhcaaGreatDoor
