/- text at three types: the text of a right part, or ErrForm, or ErrLarge; Exp, Literal, Rule. Conditions: the tables as laid. -/
import Derived.Test.YtikohamfnnlhcaaGreatDoorPcShoI
import Derived.Test.YtikohamfnnlhcaaGreatDoorPcTermL
import Derived.Laws.IdiomStrings
import Derived.Laws.BytesString
set_option linter.unusedVariables false
set_option linter.unusedSimpArgs false
namespace Go.Proofs.YtikohamfnnlhcaaGreatDoor
open Go.RowKit Go.Deep Go.Shelf

def outS (b : Bool) (X : List UInt8) (m : Int) : ByteArray := if (b && decide ((X.length : Int) ≤ m)) = true then bts X else noText
def outE (b : Bool) (X : List UInt8) (m : Int) : Int := if b = true then (if (X.length : Int) ≤ m then 0 else 3) else 2
def errS (n : Int) : Value := if n = 0 then .nilIface else eno n
theorem outS_not (X : List UInt8) (m : Int) : outS false X m = noText := rfl
theorem outE_not (X : List UInt8) (m : Int) : outE false X m = 2 := rfl
/-- a text and an error. -/
def GotT (w : World) (b : Bool) (X : List UInt8) (m : Int) (e : Ending) (w' : World) : Prop := e = .returned (.tuple #[.string (outS b X m), errS (outE b X m)]) ∧ Below w.heap.size w w'
set_option maxRecDepth 100000 in
theorem nil_conv (w : World) (c : Nat) : (convert 140 9 (.slice none 0 c)).run Tryz.prog w = .ok (.string ⟨#[]⟩) w := by
  rw [run_convert_bytes_string w 140 9 5 none 0 c Tryz.underlying140 Tryz.underlying5 Tryz.underlying9]
  simp [Conv.bytesToString]
  rfl
set_option maxRecDepth 100000 in
/-- a writer's bytes as a text. -/
theorem convS {W : World} {base : Nat} {A : Option Addr} {c : Nat} {T : List UInt8} (h : W.ownsRow base 5 1 (.slice A T.length c) T.length (Lib.strCells (bts T))) :
    (convert 140 9 (.slice A T.length c)).run Tryz.prog W = .ok (.string (bts T)) W := by
  rcases h.2 with ⟨h1, h2⟩ | ⟨g, cap, cur, h1, hg, hc, h3, h4, h5, h6⟩
  · have hT : T = [] := List.eq_nil_of_length_eq_zero h2
    subst hT
    injection h1 with h1 _ _
    subst h1
    exact nil_conv W c
  · injection h1 with h1 _ h7
    subst h1 h7
    refine run_convert_bytes_back W 140 9 5 ⟨g, 0, none⟩ c T Tryz.underlying140 Tryz.underlying5 Tryz.underlying9 (fun j hj => ?_)
    have hcell := h.cells (g := g) rfl j (.int .u8 (T[j].toNat : Int)) (by simp [Lib.strCells, bts_list, List.getElem?_eq_getElem hj])
    exact hcell
/-- a writer that is new. -/
theorem Wr.new (W : World) (m : Int) : Wr W W.heap.size [] m (W.alloc (.cells #[.slice none 0 0, .int .i64 m] 142)) :=
  ⟨⟨none, 0, heap_alloc_new _ _, World.ownsRow_nil _ _ _ _⟩, Nat.le_refl _, (Below.refl _ _).alloc (Nat.le_refl _) _⟩
theorem len46 {X : List UInt8} (h : X.length ≤ 720000400) : ([] ++ X).length ≤ 70368744177664 := by rw [List.nil_append]; omega
set_option maxRecDepth 100000 in
set_option maxHeartbeats 2000000 in
theorem text_exp (e : TEx) (A : Option Addr) (c : Nat) (m : Int) (w : World) (hV : ExV w e A) (hS : Sht w) :
    Calls Tryz.prog 52 #[exV e A c, .func (.func 53) #[] #[], .func (.func 54) #[] #[], .int .i64 m] w (GotT w (rightE 20 e) (txE e) m) := by
  have hb : Below w.heap.size w (w.alloc (.cells #[.int .i64 e.op, .string e.t.v, .int .i64 e.t.k, .int .i64 e.t.n, .string e.t.s, .slice A e.kids.length c] 61)) := (Below.refl _ _).alloc (Nat.le_refl _) _
  have HO : Hid (Own (w.alloc (.cells #[.int .i64 e.op, .string e.t.v, .int .i64 e.t.k, .int .i64 e.t.n, .string e.t.s, .slice A e.kids.length c] 61)) w.heap.size 61 [.int .i64 e.op, .string e.t.v, .int .i64 e.t.k, .int .i64 e.t.n, .string e.t.s, .slice A e.kids.length c]) := heap_alloc_new _ _
  have HB := Lib.hid hb
  have HC := Lib.hid (RightExp_is e A c _ _ rfl (hV.below hb) (hS.lays.below hb))
  have HWr : Hid (rightE 20 e = true → ∀ W, Below w.heap.size w W → Calls Tryz.prog 54 #[.pointer (some ⟨W.heap.size, 0, none⟩), .agg #[.int .i64 e.op, .string e.t.v, .int .i64 e.t.k, .int .i64 e.t.n, .string e.t.s, .slice A e.kids.length c]] (W.alloc (.cells #[.slice none 0 0, .int .i64 m] 142)) (GotW W W.heap.size [] (txE e) m (W.alloc (.cells #[.slice none 0 0, .int .i64 m] 142)))) := fun hrt W hW => exp_anyS 20 W W.heap.size [] m e A c _ hrt (hV.below hW) (hS.below hW) (Wr.new W m) (len46 (by have := rightE_len 20 e hrt; have := bE_20; omega))
  clear hb hV hS
  cases hrt : rightE 20 e with
  | false =>
    rw [hrt] at HC
    clear HWr hrt
    go_enter Tryz.func52, Tryz.ntmps52
    go_wp2_with fail
    refine HC.out.mono ?_
    rintro q W2 ⟨rfl, b2⟩
    have HB2 := Lib.hid (HB.out.trans (b2.mono HB.out.size))
    clear b2 HC
    go_wp2
    go_ret2
    exact ⟨by rw [outS_not, outE_not]; rfl, HB2.out⟩
  | true =>
    rw [hrt] at HC
    have HWr := Lib.hid (HWr.out hrt)
    clear hrt
    generalize txE e = X at *
    go_enter Tryz.func52, Tryz.ntmps52
    go_wp2_with fail
    refine HC.out.mono ?_
    rintro q W2 ⟨rfl, b2⟩
    have HB2 := Lib.hid (HB.out.trans (b2.mono HB.out.size))
    have HO3 := Lib.hid ((HO.out.below b2).alloc (.cells #[.slice none 0 0, .int .i64 m] 142))
    have HP := Lib.hid (HWr.out W2 HB2.out)
    have e0 := HO3.out.cell 0
    have e1 := HO3.out.cell 1
    have e2 := HO3.out.cell 2
    have e3 := HO3.out.cell 3
    have e4 := HO3.out.cell 4
    have e5 := HO3.out.cell 5
    have el := HO3.out.lt
    simp only [List.getElem?_cons_zero, List.getElem?_cons_succ] at e0 e1 e2 e3 e4 e5
    clear b2 HC HWr HB
    go_wp2_with fail
    refine HP.out.mono ?_
    rintro q W4 ⟨T4, rfl, p1, p2, p3, w4, k4⟩
    rw [List.nil_append] at p1 p2 p3
    simp only [List.nil_append]
    have HF := Lib.hid (HB2.out.trans (w4.base.mono HB2.out.size))
    clear k4 HP HB2 HO HO3 e0 e1 e2 e3 e4 e5 el
    cases hq : decide ((X.length : Int) ≤ m) with
    | false =>
      have hE : outE true X m = 3 := if_neg (of_decide_eq_false hq)
      have hX : outS true X m = noText := by unfold outS; rw [hq]; rfl
      clear p1 p2 p3 w4 hq
      go_wp2
      go_ret2
      exact ⟨by rw [hE, hX]; rfl, HF.out⟩
    | true =>
      have hT : T4 = X := p1 (of_decide_eq_true hq)
      subst hT
      have hE : outE true T4 m = 0 := if_pos (of_decide_eq_true hq)
      have hX : outS true T4 m = bts T4 := by unfold outS; rw [hq]; rfl
      obtain ⟨A9, c9, o9, r9⟩ := w4.own
      have hcv := convS r9
      have y0 := o9.cell 0
      have yl := o9.lt
      simp only [List.getElem?_cons_zero] at y0
      clear p1 p2 p3 w4 hq o9 r9
      go_wp2
      go_ret2
      exact ⟨by rw [hE, hX]; rfl, HF.out⟩
set_option maxRecDepth 100000 in
set_option maxHeartbeats 2000000 in
theorem Exp_anyS (e : TEx) (A : Option Addr) (c : Nat) (w : World) (hV : ExV w e A) (hS : Sht w) :
    Calls Tryz.prog 20 #[exV e A c] w (GotT w (rightE 20 e) (txE e) 9223372036854775807) := by
  have hb : Below w.heap.size w (w.alloc (.cells #[.int .i64 e.op, .string e.t.v, .int .i64 e.t.k, .int .i64 e.t.n, .string e.t.s, .slice A e.kids.length c] 61)) := (Below.refl _ _).alloc (Nat.le_refl _) _
  have HB := Lib.hid hb
  have HC := Lib.hid (text_exp e A c 9223372036854775807 _ (hV.below hb) (hS.below hb))
  clear hb hV hS
  generalize rightE 20 e = rb at *
  generalize txE e = X at *
  go_enter Tryz.func20, Tryz.ntmps20
  go_wp2_with fail
  refine HC.out.mono ?_
  rintro q W2 ⟨rfl, b2⟩
  have HF := Lib.hid (HB.out.trans (b2.mono HB.out.size))
  clear b2 HC HB
  go_wp2
  go_ret2
  exact ⟨rfl, HF.out⟩
end Go.Proofs.YtikohamfnnlhcaaGreatDoor
