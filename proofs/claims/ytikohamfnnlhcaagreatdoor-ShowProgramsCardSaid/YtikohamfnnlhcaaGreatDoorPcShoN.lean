/- The law's own example; one. Conditions: the tables as laid. -/
import Derived.Test.YtikohamfnnlhcaaGreatDoorPcShoJ
import Derived.Test.YtikohamfnnlhcaaGreatDoorPcShoM
set_option linter.unusedVariables false
set_option linter.unusedSimpArgs false
namespace Go.Proofs.YtikohamfnnlhcaaGreatDoor
open Go.RowKit Go.Deep Go.Shelf

def aX : TEx := .mk 0 ⟨⟨#[88]⟩, 0, 0, noText⟩ []
def aY : TEx := .mk 0 ⟨⟨#[89]⟩, 0, 0, noText⟩ []
def aN (n : Int) : TEx := .mk 0 ⟨noText, 1, n, noText⟩ []
def aS : TEx := .mk 1 zT [aY, aN 1]
def aP : TEx := .mk 3 zT [aS, aN 2]
def aT : TEx := .mk 2 zT [aX, aP]
theorem aT_right : rightE 20 aT = true := by decide +kernel
theorem aT_text : bts (txE aT) = ⟨#[88, 32, 45, 32, 40, 89, 32, 43, 32, 49, 41, 32, 42, 32, 50]⟩ := by decide +kernel
theorem aT_out : outS true (txE aT) 9223372036854775807 = ⟨#[88, 32, 45, 32, 40, 89, 32, 43, 32, 49, 41, 32, 42, 32, 50]⟩ := by
  unfold outS
  rw [if_pos (by decide +kernel)]
  exact aT_text
theorem aT_err : outE true (txE aT) 9223372036854775807 = 0 := by
  unfold outE
  rw [if_pos rfl, if_pos (by decide +kernel)]
theorem v7_any (s : ByteArray) (w : World) : Calls Tryz.prog 33 #[.string s] w fun e w' => e = .returned (.agg #[.int .i64 0, .string s, .int .i64 0, .int .i64 0, .string noText, .slice none 0 0]) ∧ w' = w.alloc (.cells #[.int .i64 0, .string s, .int .i64 0, .int .i64 0, .string noText, .slice none 0 0] 61) := by
  go_enter Tryz.func33, Tryz.ntmps33
  go_wp2
  exact bodyPost_ret (v := .agg #[.int .i64 0, .string s, .int .i64 0, .int .i64 0, .string noText, .slice none 0 0]) (by simp [results, Tryz.results33, go_sem]) rfl ⟨rfl, rfl⟩
theorem n7_any (n : Int) (w : World) : Calls Tryz.prog 34 #[.int .i64 n] w fun e w' => e = .returned (.agg #[.int .i64 0, .string noText, .int .i64 1, .int .i64 n, .string noText, .slice none 0 0]) ∧ w' = w.alloc (.cells #[.int .i64 0, .string noText, .int .i64 1, .int .i64 n, .string noText, .slice none 0 0] 61) := by
  go_enter Tryz.func34, Tryz.ntmps34
  go_wp2
  exact bodyPost_ret (v := .agg #[.int .i64 0, .string noText, .int .i64 1, .int .i64 n, .string noText, .slice none 0 0]) (by simp [results, Tryz.results34, go_sem]) rfl ⟨rfl, rfl⟩
theorem leafC {w : World} {b o : Nat} {t : TTm} (ho : okTm t) (h : ∀ i v, ([.int .i64 0, .string t.v, .int .i64 t.k, .int .i64 t.n, .string t.s, .slice none 0 0] : List Value)[i]? = some v → w.cell? ⟨b, o + i, none⟩ = some v) : ExC w b o (.mk 0 t []) :=
  ExC.shut (A := none) (c := 0) (h 0 _ rfl) (h 1 _ rfl) (h 2 _ rfl) (h 3 _ rfl) (h 4 _ rfl) (h 5 _ rfl) ⟨ho, Rg.nil⟩
/-- two expressions in a row of their own. -/
theorem row2X {w : World} {g : Nat} {x y : TEx} {xs ys : List Value} (ho : Own w g 61 (xs ++ ys)) (hx : xs.length = 6) (hX : (∀ i v, xs[i]? = some v → w.cell? ⟨g, 0 + i, none⟩ = some v) → ExC w g 0 x) (hY : (∀ i v, ys[i]? = some v → w.cell? ⟨g, 6 + i, none⟩ = some v) → ExC w g 6 y) : Rg 6 ExC w (some ⟨g, 0, none⟩) [x, y] := by
  refine ⟨by simp, fun _ => ⟨g, 0, rfl, ho.lt, fun i z hz => ?_⟩⟩
  match i with
  | 0 =>
    simp only [List.getElem?_cons_zero, Option.some.injEq] at hz
    subst hz
    refine hX fun i v hv => ?_
    rw [Nat.zero_add, ho.cell, List.getElem?_append_left (by have := (List.getElem?_eq_some_iff.1 hv).1; omega)]
    exact hv
  | 1 =>
    simp only [List.getElem?_cons_zero, List.getElem?_cons_succ, Option.some.injEq] at hz
    subst hz
    refine hY fun i v hv => ?_
    rw [ho.cell, List.getElem?_append_right (by omega), hx, show 6 + i - 6 = i by omega]
    exact hv
  | n + 2 => simp at hz
theorem nodeC {w : World} {b o g : Nat} {op : Int} {x y : TEx} (hr : Rg 6 ExC w (some ⟨g, 0, none⟩) [x, y]) (h : ∀ i v, ([.int .i64 op, .string noText, .int .i64 0, .int .i64 0, .string noText, .slice (some ⟨g, 0, none⟩) 2 2] : List Value)[i]? = some v → w.cell? ⟨b, o + i, none⟩ = some v) : ExC w b o (.mk op zT [x, y]) :=
  ExC.shut (e := .mk op zT [x, y]) (A := some ⟨g, 0, none⟩) (c := 2) (h 0 _ rfl) (h 1 _ rfl) (h 2 _ rfl) (h 3 _ rfl) (h 4 _ rfl) (h 5 _ rfl) ⟨⟨by show (noText : ByteArray).size ≤ _; decide, by show (noText : ByteArray).size ≤ _; decide⟩, hr⟩
theorem okS {v s : ByteArray} {k n : Int} (h1 : v.size ≤ 10) (h2 : s.size ≤ 10) : okTm ⟨v, k, n, s⟩ := ⟨by show v.size ≤ _; omega, by show s.size ≤ _; omega⟩
set_option maxRecDepth 100000 in
theorem alive7_V (w W : World) (hW : W = (((((((w.alloc (.cells #[.int .i64 0, .string ⟨#[88]⟩, .int .i64 0, .int .i64 0, .string noText, .slice none 0 0] 61)).alloc (.cells #[.int .i64 0, .string ⟨#[89]⟩, .int .i64 0, .int .i64 0, .string noText, .slice none 0 0] 61)).alloc (.cells #[.int .i64 0, .string noText, .int .i64 1, .int .i64 1, .string noText, .slice none 0 0] 61)).alloc (.cells #[.int .i64 0, .string ⟨#[89]⟩, .int .i64 0, .int .i64 0, .string noText, .slice none 0 0, .int .i64 0, .string noText, .int .i64 1, .int .i64 1, .string noText, .slice none 0 0] 61)).alloc (.cells #[.int .i64 0, .string noText, .int .i64 1, .int .i64 2, .string noText, .slice none 0 0] 61)).alloc (.cells #[.int .i64 1, .string noText, .int .i64 0, .int .i64 0, .string noText, .slice (some ⟨w.heap.size + 1 + 1 + 1, 0, none⟩) 2 2, .int .i64 0, .string noText, .int .i64 1, .int .i64 2, .string noText, .slice none 0 0] 61)).alloc (.cells #[.int .i64 0, .string ⟨#[88]⟩, .int .i64 0, .int .i64 0, .string noText, .slice none 0 0, .int .i64 3, .string noText, .int .i64 0, .int .i64 0, .string noText, .slice (some ⟨w.heap.size + 1 + 1 + 1 + 1 + 1, 0, none⟩) 2 2] 61))) : ExV W aT (some ⟨w.heap.size + 1 + 1 + 1 + 1 + 1 + 1, 0, none⟩) := by
  have a4 := heap_alloc_new (((w.alloc (.cells #[.int .i64 0, .string ⟨#[88]⟩, .int .i64 0, .int .i64 0, .string noText, .slice none 0 0] 61)).alloc (.cells #[.int .i64 0, .string ⟨#[89]⟩, .int .i64 0, .int .i64 0, .string noText, .slice none 0 0] 61)).alloc (.cells #[.int .i64 0, .string noText, .int .i64 1, .int .i64 1, .string noText, .slice none 0 0] 61)) (.cells #[.int .i64 0, .string ⟨#[89]⟩, .int .i64 0, .int .i64 0, .string noText, .slice none 0 0, .int .i64 0, .string noText, .int .i64 1, .int .i64 1, .string noText, .slice none 0 0] 61)
  have a6 := heap_alloc_new (((((w.alloc (.cells #[.int .i64 0, .string ⟨#[88]⟩, .int .i64 0, .int .i64 0, .string noText, .slice none 0 0] 61)).alloc (.cells #[.int .i64 0, .string ⟨#[89]⟩, .int .i64 0, .int .i64 0, .string noText, .slice none 0 0] 61)).alloc (.cells #[.int .i64 0, .string noText, .int .i64 1, .int .i64 1, .string noText, .slice none 0 0] 61)).alloc (.cells #[.int .i64 0, .string ⟨#[89]⟩, .int .i64 0, .int .i64 0, .string noText, .slice none 0 0, .int .i64 0, .string noText, .int .i64 1, .int .i64 1, .string noText, .slice none 0 0] 61)).alloc (.cells #[.int .i64 0, .string noText, .int .i64 1, .int .i64 2, .string noText, .slice none 0 0] 61)) (.cells #[.int .i64 1, .string noText, .int .i64 0, .int .i64 0, .string noText, .slice (some ⟨w.heap.size + 1 + 1 + 1, 0, none⟩) 2 2, .int .i64 0, .string noText, .int .i64 1, .int .i64 2, .string noText, .slice none 0 0] 61)
  have a7 := heap_alloc_new ((((((w.alloc (.cells #[.int .i64 0, .string ⟨#[88]⟩, .int .i64 0, .int .i64 0, .string noText, .slice none 0 0] 61)).alloc (.cells #[.int .i64 0, .string ⟨#[89]⟩, .int .i64 0, .int .i64 0, .string noText, .slice none 0 0] 61)).alloc (.cells #[.int .i64 0, .string noText, .int .i64 1, .int .i64 1, .string noText, .slice none 0 0] 61)).alloc (.cells #[.int .i64 0, .string ⟨#[89]⟩, .int .i64 0, .int .i64 0, .string noText, .slice none 0 0, .int .i64 0, .string noText, .int .i64 1, .int .i64 1, .string noText, .slice none 0 0] 61)).alloc (.cells #[.int .i64 0, .string noText, .int .i64 1, .int .i64 2, .string noText, .slice none 0 0] 61)).alloc (.cells #[.int .i64 1, .string noText, .int .i64 0, .int .i64 0, .string noText, .slice (some ⟨w.heap.size + 1 + 1 + 1, 0, none⟩) 2 2, .int .i64 0, .string noText, .int .i64 1, .int .i64 2, .string noText, .slice none 0 0] 61)) (.cells #[.int .i64 0, .string ⟨#[88]⟩, .int .i64 0, .int .i64 0, .string noText, .slice none 0 0, .int .i64 3, .string noText, .int .i64 0, .int .i64 0, .string noText, .slice (some ⟨w.heap.size + 1 + 1 + 1 + 1 + 1, 0, none⟩) 2 2] 61)
  simp only [World.size_alloc] at a4 a6 a7
  have O4 : Own W (w.heap.size + 1 + 1 + 1) 61 ([.int .i64 0, .string ⟨#[89]⟩, .int .i64 0, .int .i64 0, .string noText, .slice none 0 0] ++ [.int .i64 0, .string noText, .int .i64 1, .int .i64 1, .string noText, .slice none 0 0]) := by rw [hW]; exact Own.alloc (Own.alloc (Own.alloc a4 _) _) _
  have O6 : Own W (w.heap.size + 1 + 1 + 1 + 1 + 1) 61 ([.int .i64 1, .string noText, .int .i64 0, .int .i64 0, .string noText, .slice (some ⟨w.heap.size + 1 + 1 + 1, 0, none⟩) 2 2] ++ [.int .i64 0, .string noText, .int .i64 1, .int .i64 2, .string noText, .slice none 0 0]) := by rw [hW]; exact Own.alloc a6 _
  have O7 : Own W (w.heap.size + 1 + 1 + 1 + 1 + 1 + 1) 61 ([.int .i64 0, .string ⟨#[88]⟩, .int .i64 0, .int .i64 0, .string noText, .slice none 0 0] ++ [.int .i64 3, .string noText, .int .i64 0, .int .i64 0, .string noText, .slice (some ⟨w.heap.size + 1 + 1 + 1 + 1 + 1, 0, none⟩) 2 2]) := by rw [hW]; exact a7
  have R4 : Rg 6 ExC W (some ⟨w.heap.size + 1 + 1 + 1, 0, none⟩) [aY, aN 1] := row2X O4 rfl (fun h => leafC (okS (by decide) (by decide)) h) (fun h => leafC (okS (by decide) (by decide)) h)
  have R6 : Rg 6 ExC W (some ⟨w.heap.size + 1 + 1 + 1 + 1 + 1, 0, none⟩) [aS, aN 2] := row2X O6 rfl (fun h => nodeC R4 h) (fun h => leafC (okS (by decide) (by decide)) h)
  have R7 : Rg 6 ExC W (some ⟨w.heap.size + 1 + 1 + 1 + 1 + 1 + 1, 0, none⟩) [aX, aP] := row2X O7 rfl (fun h => leafC (okS (by decide) (by decide)) h) (fun h => nodeC R6 h)
  exact ⟨okS (by decide) (by decide), R7⟩
set_option maxRecDepth 100000 in
set_option maxHeartbeats 2000000 in
theorem alive7 (w : World) (hS : Sht w) : Calls Tryz.prog 6 #[] w fun e w' => e = .returned (.bool true) ∧ Below w.heap.size w w' := by
  obtain ⟨W7, hW7⟩ : ∃ W7, W7 = (((((((w.alloc (.cells #[.int .i64 0, .string ⟨#[88]⟩, .int .i64 0, .int .i64 0, .string noText, .slice none 0 0] 61)).alloc (.cells #[.int .i64 0, .string ⟨#[89]⟩, .int .i64 0, .int .i64 0, .string noText, .slice none 0 0] 61)).alloc (.cells #[.int .i64 0, .string noText, .int .i64 1, .int .i64 1, .string noText, .slice none 0 0] 61)).alloc (.cells #[.int .i64 0, .string ⟨#[89]⟩, .int .i64 0, .int .i64 0, .string noText, .slice none 0 0, .int .i64 0, .string noText, .int .i64 1, .int .i64 1, .string noText, .slice none 0 0] 61)).alloc (.cells #[.int .i64 0, .string noText, .int .i64 1, .int .i64 2, .string noText, .slice none 0 0] 61)).alloc (.cells #[.int .i64 1, .string noText, .int .i64 0, .int .i64 0, .string noText, .slice (some ⟨w.heap.size + 1 + 1 + 1, 0, none⟩) 2 2, .int .i64 0, .string noText, .int .i64 1, .int .i64 2, .string noText, .slice none 0 0] 61)).alloc (.cells #[.int .i64 0, .string ⟨#[88]⟩, .int .i64 0, .int .i64 0, .string noText, .slice none 0 0, .int .i64 3, .string noText, .int .i64 0, .int .i64 0, .string noText, .slice (some ⟨w.heap.size + 1 + 1 + 1 + 1 + 1, 0, none⟩) 2 2] 61)) := ⟨_, rfl⟩
  have HV := Lib.hid (alive7_V w W7 hW7)
  have hb : Below w.heap.size w W7 := by
    rw [hW7]
    exact ((((((((Below.refl _ _).alloc (Nat.le_refl _) _).alloc (by simp) _).alloc (by simp; omega) _).alloc (by simp; omega) _).alloc (by simp; omega) _).alloc (by simp; omega) _).alloc (by simp; omega) _)
  have HB := Lib.hid hb
  have HC := Lib.hid (Exp_anyS aT (some ⟨w.heap.size + 1 + 1 + 1 + 1 + 1 + 1, 0, none⟩) 2 W7 HV.out (hS.below hb))
  rw [aT_right] at HC
  unfold GotT at HC
  rw [aT_out, aT_err, show errS 0 = .nilIface from rfl] at HC
  have HW := Lib.hid hW7
  clear hS hb hW7 HV
  go_enter Tryz.func6, Tryz.ntmps6
  go_wp2_with (first
    | (go_at_call 33; refine (v7_any _ _).mono ?_; rintro e w' ⟨rfl, rfl⟩)
    | (go_at_call 34; refine (n7_any _ _).mono ?_; rintro e w' ⟨rfl, rfl⟩)
    | fail)
  rw [← HW.out]
  refine HC.out.mono ?_
  rintro e w2 ⟨rfl, b2⟩
  have HF := Lib.hid (HB.out.trans (b2.mono HB.out.size))
  clear b2 HC HW
  go_wp2
  go_ret
  exact ⟨rfl, HF.out⟩
end Go.Proofs.YtikohamfnnlhcaaGreatDoor
