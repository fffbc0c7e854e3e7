/- LexTokens: each token, as far as they are asked for. Conditions: lex's two tables and strconv's variables as they are laid. -/
import Derived.Test.YtgjcaadgkeebpaaDoorLexLi
import Derived.RegionIn
import Derived.Stop.RegionWithIn
import Derived.Shelf.RegionOpen
namespace Go.Proofs.YtgjcaadgkeebpaaDoor
open Go.RowKit Go.Deep Go.Shelf
attribute [local go_sem] Oper.semAt_some

/-- which token comes next. -/
theorem next_of {R : List Tk × Option Nat} {pre : List Tk} {x : Tk} (h : (pre ++ [x]) <+: yOf R) :
    (pre.length < R.1.length ∧ R.1[pre.length]? = some x) ∨ (pre.length = R.1.length ∧ R.2 = some x.2.2 ∧ x.1 = 0 ∧ x.2.1 = [] ∧ pre ++ [x] = yOf R) := by
  obtain ⟨L, o⟩ := R
  obtain ⟨r, hr⟩ := h
  have h1 : (yOf (L, o))[pre.length]? = some x := by rw [← hr]; simp
  have hlen := congrArg List.length hr
  cases o with
  | none =>
    have e : yOf (L, none) = L := by simp [yOf]
    rw [e] at h1
    exact .inl ⟨(List.getElem?_eq_some_iff.1 h1).1, h1⟩
  | some p =>
    have e : yOf (L, some p) = L ++ [(0, [], p)] := rfl
    rw [e] at h1 hr hlen
    by_cases hl : pre.length < L.length
    · rw [List.getElem?_append_left hl] at h1
      exact .inl ⟨hl, h1⟩
    · rw [List.getElem?_append_right (by omega)] at h1
      have h2 := (List.getElem?_eq_some_iff.1 h1).1
      simp only [List.length_singleton] at h2
      have h3 : pre.length - L.length = 0 := by omega
      rw [h3] at h1
      simp only [List.getElem?_cons_zero, Option.some.injEq] at h1
      subst h1
      refine .inr ⟨by simp only; omega, rfl, rfl, rfl, ?_⟩
      simp only [List.length_append, List.length_singleton] at hlen
      have h4 : r = [] := List.eq_nil_of_length_eq_zero (by omega)
      rw [h4, List.append_nil] at hr
      rw [hr]
      rfl
theorem stop40 (st : Int) : ∃ q : Nat, wrap64 (1 + wrap64 ((IntKind.u64.wrap st).tmod 40)) = (q : Int) ∧ 1 ≤ q ∧ q ≤ 40 := by
  have h0 : 0 ≤ IntKind.u64.wrap st := by
    rw [IntKind.wrap_u64]
    omega
  have h1 := Int.tmod_nonneg 40 h0
  have h2 := Int.tmod_lt_of_pos (IntKind.u64.wrap st) (b := 40) (by omega)
  generalize (IntKind.u64.wrap st).tmod 40 = m at h1 h2
  refine ⟨(m + 1).toNat, ?_, by omega, by omega⟩
  unfold wrap64
  omega
/-- the place without a token, -1 for none. -/
def whereI (o : Option Nat) : Int := match o with | none => -1 | some p => (p : Int)
/-- the boxes and the document's list, between two rounds. -/
structure TkI (w : World) (b5 b7 : Nat) (st : Int) (A : Option Addr) (c : Nat) (R : List Tk × Option Nat) (k : Nat) (W : World) : Prop where
  o3 : Own W w.heap.size 3 [.int .i64 st]
  o4 : Own W (w.heap.size + 1) 4 [.bool false]
  o5 : Own W b5 28 [.slice A R.1.length c]
  o6 : Own W (b5 + 1) 3 [.int .i64 (whereI R.2)]
  o7 : Own W b7 3 [.int .i64 k]
  row : TRow W A R.1
  low : Below w.heap.size w W
section
variable {w X Y : World} {b5 b7 c k B : Nat} {st : Int} {A : Option Addr} {R : List Tk × Option Nat}
theorem TRow.calm {L : List Tk} (h : TRow X A L) (hc : Calm B X Y) : TRow Y A L := fun h0 => by
  obtain ⟨b, o, h1, h2, h3⟩ := h h0
  refine ⟨b, o, h1, Nat.lt_of_lt_of_le h2 hc.size, fun i x hx => ?_⟩
  obtain ⟨c0, c1, c2⟩ := h3 i x hx
  exact ⟨hc.cell c0, hc.cell c1, hc.cell c2⟩
theorem TkI.calm (h : TkI w b5 b7 st A c R k X) (hc : Calm B X Y) (hB : w.heap.size ≤ B) : TkI w b5 b7 st A c R k Y :=
  ⟨hc.own h.o3, hc.own h.o4, hc.own h.o5, hc.own h.o6, hc.own h.o7, h.row.calm hc, Below.calm h.low hc (Nat.le_refl _) hB⟩
theorem TkI.below (h : TkI w b5 b7 st A c R k X) (hb : Below X.heap.size X Y) : TkI w b5 b7 st A c R k Y := h.calm (B := w.heap.size) (Calm.of_below _ hb) (Nat.le_refl _)
/-- the count goes up. -/
theorem TkI.bump (h : TkI w b5 b7 st A c R k X) (h5 : w.heap.size + 2 ≤ b5) (h7 : b5 + 2 ≤ b7) (B0 k' : Nat) :
    TkI w b5 b7 st A c R k' (X.setCell ⟨b7, 0, none⟩ (.int .i64 k')) ∧ KeepsFrom B0 X (X.setCell ⟨b7, 0, none⟩ (.int .i64 k')) ∧ Kf [] b7 0 X (X.setCell ⟨b7, 0, none⟩ (.int .i64 k')) := by
  have kb : Kept [b7] X (X.setCell ⟨b7, 0, none⟩ (.int .i64 k')) := (Kept.refl _ X).setCell (.inl (by simp)) _
  have hO := h.o7.set 0 (.int .i64 k')
  have hf0 : footL [] b7 0 X = [] ++ [b7] := foot_int [] (h.o7.cell 0)
  have hf5 := foot_int [] (hO.cell 0)
  refine ⟨⟨kb.own h.o3 (by simp only [List.mem_singleton]; omega), kb.own h.o4 (by simp only [List.mem_singleton]; omega), kb.own h.o5 (by simp only [List.mem_singleton]; omega), kb.own h.o6 (by simp only [List.mem_singleton]; omega), hO, fun h0 => ?_, h.low.trans (kb.below h.low.size fun k hk => by simp only [List.mem_singleton] at hk; omega)⟩, kb.keeps (fun k hk o ho => ?_) _, Kf.of_kept kb (fun k hk => by rw [hf0]; exact hk) (by rw [hf5, hf0]; exact Sub.refl _ _) (fun k hk => by
    rw [hf5] at hk
    simp only [List.nil_append, List.mem_singleton] at hk
    subst hk
    exact hO.lt)⟩
  · obtain ⟨b, o, e1, l1, c1⟩ := h.row h0
    have hne : b ∉ [b7] := fun hm => by
      simp only [List.mem_singleton] at hm
      subst hm
      obtain ⟨_, d1, _⟩ := c1 0 _ (List.getElem?_eq_getElem h0)
      rw [h.o7.cell] at d1
      simp at d1
    refine ⟨b, o, e1, Nat.lt_of_lt_of_le l1 kb.size, fun i x hx => ?_⟩
    obtain ⟨d0, d1, d2⟩ := c1 i x hx
    exact ⟨(kb.cell (p := ⟨b, _, none⟩) l1 hne).trans d0, (kb.cell (p := ⟨b, _, none⟩) l1 hne).trans d1, (kb.cell (p := ⟨b, _, none⟩) l1 hne).trans d2⟩
  · simp only [List.mem_singleton] at hk
    subst hk
    have h8 := h.o7
    unfold Own at h8
    rw [h8] at ho
    cases ho
    rfl
end
end Go.Proofs.YtgjcaadgkeebpaaDoor
