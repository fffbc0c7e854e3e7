/- The tables of package show as they are laid; a writer in memory; the text of a term; rows of texts, joined. Conditions: the tables and the library's variables as laid; lengths as each theorem says. -/
import Derived.Test.YtikohamfnnlhcaaGreatDoorPcShoA
import Derived.Test.YtikohamfnnlhcaaGreatDoorPcTermW
import Derived.Test.YtikohamfnnlhcaaGreatDoorScL
import Derived.Lib.AppendStr
set_option linter.unusedVariables false
set_option linter.unusedSimpArgs false
namespace Go.Proofs.YtikohamfnnlhcaaGreatDoor
open Go.RowKit Go.Deep Go.Shelf

/-- a table of texts. -/
def StrTab (w : World) (g : Nat) (L : List (List UInt8)) : Prop := g < w.heap.size ∧ ∀ (j : Nat) x, L[j]? = some x → w.cell? ⟨g, j, none⟩ = some (.string (bts x))
def opsL : List (List UInt8 × Int) := [([], 3), ([43], 1), ([45], 1), ([42], 2)]
def cmpsL : List (List UInt8) := [[], [61], [33, 61], [60], [60, 61], [62], [62, 61]]
def aggsL : List (List UInt8) := [[], [99, 111, 117, 110, 116], [115, 117, 109], [109, 105, 110], [109, 97, 120]]
def kindsL : List (List UInt8) := [[], [105, 110, 116], [115, 121, 109]]
def OpsTab (w : World) : Prop := 1 < w.heap.size ∧ ∀ (j : Nat) x, opsL[j]? = some x → w.cell? ⟨1, j * 2, none⟩ = some (.string (bts x.1)) ∧ w.cell? ⟨1, j * 2 + 1, none⟩ = some (.int .i64 x.2)
/-- what is laid. -/
structure Sht (w : World) : Prop where
  lays : Lays w
  ops : OpsTab w
  cmps : StrTab w 0 cmpsL
  aggs : StrTab w 2 aggsL
theorem StrTab.below {w w' : World} {g : Nat} {L : List (List UInt8)} (h : StrTab w g L) (hb : Below w.heap.size w w') : StrTab w' g L := ⟨Nat.lt_of_lt_of_le h.1 hb.size, fun j x hx => (hb.cell (p := ⟨g, j, none⟩) h.1).trans (h.2 j x hx)⟩
theorem OpsTab.below {w w' : World} (h : OpsTab w) (hb : Below w.heap.size w w') : OpsTab w' := ⟨Nat.lt_of_lt_of_le h.1 hb.size, fun j x hx => ⟨(hb.cell (p := ⟨_, _, none⟩) h.1).trans (h.2 j x hx).1, (hb.cell (p := ⟨_, _, none⟩) h.1).trans (h.2 j x hx).2⟩⟩
theorem Sht.below {w w' : World} (h : Sht w) (hb : Below w.heap.size w w') : Sht w' := ⟨h.lays.below hb, h.ops.below hb, h.cmps.below hb, h.aggs.below hb⟩
theorem bts_app (a b : List UInt8) : bts a ++ bts b = bts (a ++ b) := by
  apply ByteArray.ext
  simp [bts]
set_option maxRecDepth 100000 in
set_option maxHeartbeats 400000 in
theorem word_anyS (t : TTm) (w : World) (ht : okTm t) (hL : Lays w) :
    Calls Tryz.prog 85 #[tmV t] w fun e w' => e = .returned (.string (bts (txTm t))) ∧ Below w.heap.size w w' := by
  obtain ⟨v, k, n, s⟩ := t
  obtain ⟨h1, h2⟩ := ht
  simp only at h1 h2
  unfold tmV
  simp only
  have hb : Below w.heap.size w (w.alloc (.cells #[.string v, .int .i64 k, .int .i64 n, .string s] 58)) := (Below.refl _ _).alloc (Nat.le_refl _) _
  by_cases hv : v.size = 0
  · have hv0 : v = noText := empty_of hv
    subst hv0
    have HX : Hid (bts (txTm ⟨noText, k, n, s⟩) = textV k n s) := by show _ = _; unfold txTm; rw [if_pos (show (noText : ByteArray).size = 0 from rfl), bts_of]
    have HT := Lib.hid (Text_any k n s _ (Nat.le_trans h2 (by unfold maxLen; omega)) (hL.below hb).2.2.1)
    have HB := Lib.hid hb
    clear hb hL
    go_enter Tryz.func85, Tryz.ntmps85
    go_wp2_with fail
    refine HT.out.mono ?_
    rintro e w2 ⟨rfl, b2⟩
    have B2 := Lib.hid (HB.out.trans (b2.mono HB.out.size))
    clear b2
    go_wp2
    go_ret
    exact ⟨ret_str HX.out.symm, B2.out⟩
  · have HX : Hid (bts (txTm ⟨v, k, n, s⟩) = v) := by show _ = _; unfold txTm; rw [if_neg hv, bts_of]
    have HB := Lib.hid hb
    obtain ⟨hz1, hz⟩ := empty_not hv
    have hz2 : ¬ v.toList = [] := fun e => by rw [e] at hz; cases hz
    clear hb hL
    go_enter Tryz.func85, Tryz.ntmps85
    go_wp2
    go_ret
    exact ⟨ret_str HX.out.symm, HB.out⟩

/-- a row of texts in a new block. -/
def NewS (w : World) (xs : List (List UInt8)) (e : Ending) (w' : World) : Prop :=
  ∃ g, e = .returned (.slice (some ⟨g, 0, none⟩) xs.length xs.length) ∧ w.heap.size ≤ g ∧ Own w' g 9 (xs.map fun x => .string (bts x)) ∧ Below w.heap.size w w'
theorem own_strs {w : World} {g : Nat} {xs : List (List UInt8)} (h : Own w g 9 (xs.map fun x => .string (bts x))) : ∀ (j : Nat) x, (xs.map bts)[j]? = some x → w.cell? ⟨g, 0 + j, none⟩ = some (.string x) := by
  intro j x hx
  rw [Nat.zero_add, h.cell]
  rw [List.getElem?_map] at hx ⊢
  cases hl : xs[j]? with
  | none => rw [hl] at hx; cases hx
  | some y => rw [hl] at hx; simp only [Option.map_some, Option.some.injEq] at hx ⊢; rw [hx]
theorem map_bts (xs : List (List UInt8)) : (xs.map bts).map (·.data.toList) = xs := by
  rw [List.map_map]
  simp [Function.comp_def, bts_list]
set_option maxRecDepth 100000 in
set_option maxHeartbeats 400000 in
theorem list_anyS (n : ByteArray) (g : Nat) (xs : List (List UInt8)) (w : World) (ho : Own w g 9 (xs.map fun x => .string (bts x))) (hn : n.size ≤ 100000) (hx : xs.length ≤ 100) (hj : (Lib.join xs [44, 32]).length ≤ 100000) :
    Calls Tryz.prog 104 #[.string n, .slice (some ⟨g, 0, none⟩) xs.length xs.length] w fun e w' => e = .returned (.string (bts (n.data.toList ++ ([40] ++ (Lib.join xs [44, 32] ++ [41]))))) ∧ Below w.heap.size w w' := by
  have h1 := Tryz.strings_Join g 0 xs.length (xs.map bts) ⟨#[44, 32]⟩ w (own_strs ho) ho.lt (by simp; omega) (by simp) (by rw [map_bts]; exact Nat.le_trans hj (by omega))
  rw [map_bts, List.length_map] at h1
  have HJ := Lib.hid h1
  have hs : (⟨(Lib.join xs [44, 32]).toArray⟩ : ByteArray).size ≤ 100000 := by show (Lib.join xs [44, 32]).toArray.size ≤ 100000; simpa using hj
  have HX : Hid (n ++ ⟨#[40]⟩ ++ ⟨(Lib.join xs [44, 32]).toArray⟩ ++ ⟨#[41]⟩ = bts (n.data.toList ++ ([40] ++ (Lib.join xs [44, 32] ++ [41])))) := by
    show _ = _
    apply ByteArray.ext
    simp [bts]
  clear h1 ho
  generalize (⟨(Lib.join xs [44, 32]).toArray⟩ : ByteArray) = y at *
  generalize bts (n.data.toList ++ ([40] ++ (Lib.join xs [44, 32] ++ [41]))) = z at *
  have h2 : n.size + 1 ≤ 281474976710656 := by omega
  have h3 : n.size + 1 + y.size ≤ 281474976710656 := by omega
  have h4 : n.size + 1 + y.size + 1 ≤ 281474976710656 := by omega
  go_enter Tryz.func104, Tryz.ntmps104
  go_wp2_with fail
  refine HJ.out.mono ?_
  rintro e w2 ⟨rfl, b2⟩
  have B2 := Lib.hid b2
  clear b2
  go_wp2
  go_ret
  exact ⟨ret_str HX.out, B2.out⟩
end Go.Proofs.YtikohamfnnlhcaaGreatDoor
