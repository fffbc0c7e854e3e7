/- The chapter's example (corollarylaw02.alive) is so. Conditions: the library's table. -/
import Derived.Test.YteamogdbhoajkaaDoorTupH
namespace Go.Proofs.YteamogdbhoajkaaDoor
open Go.RowKit Go.Deep

abbrev aB : ByteArray := ⟨#[97]⟩
abbrev n1 : V3 := (1, 1, noText)
abbrev n2 : V3 := (1, 2, noText)
abbrev sa : V3 := (2, 0, aB)

set_option maxRecDepth 100000 in
set_option maxHeartbeats 400000 in
theorem lit_any (k : Int) (w : World) : Calls Tryd.prog 28 #[.int .i64 k] w fun e w' => e = .returned (vv 1 k noText) ∧ w.alloc (.cells #[.int .i64 1, .int .i64 k, .string noText] 30) = w' := by
  go_enter Tryd.func28, Tryd.ntmps28
  go_wp2
  go_returns
  exact ⟨rfl, rfl⟩

/-- one value at the head of a block. -/
def At (w : World) (g p : Nat) (x : V3) : Prop :=
  w.cell? ⟨g, p, none⟩ = some (.int .i64 x.1) ∧ w.cell? ⟨g, p + 1, none⟩ = some (.int .i64 x.2.1) ∧ w.cell? ⟨g, p + 2, none⟩ = some (.string x.2.2)
theorem row1 {w : World} {g : Nat} {x : V3} (hg : g < w.heap.size) (h0 : At w g 0 x) : Row w (some ⟨g, 0, none⟩) [x] := by
  intro _
  refine ⟨g, 0, rfl, hg, fun i y hy => ?_⟩
  match i, hy with
  | 0, hy => simp at hy; subst hy; exact h0
theorem row2 {w : World} {g : Nat} {x y : V3} (hg : g < w.heap.size) (h0 : At w g 0 x) (h1 : At w g 3 y) : Row w (some ⟨g, 0, none⟩) [x, y] := by
  intro _
  refine ⟨g, 0, rfl, hg, fun i z hz => ?_⟩
  match i, hz with
  | 0, hz => simp at hz; subst hz; exact h0
  | 1, hz => simp at hz; subst hz; exact h1
theorem row3 {w : World} {g : Nat} {x y u : V3} (hg : g < w.heap.size) (h0 : At w g 0 x) (h1 : At w g 3 y) (h2 : At w g 6 u) : Row w (some ⟨g, 0, none⟩) [x, y, u] := by
  intro _
  refine ⟨g, 0, rfl, hg, fun i z hz => ?_⟩
  match i, hz with
  | 0, hz => simp at hz; subst hz; exact h0
  | 1, hz => simp at hz; subst hz; exact h1
  | 2, hz => simp at hz; subst hz; exact h2

theorem cmp_e1 : cmpT [n1, sa] [n1, sa, n2] = -1 := by
  have h1 : cmp3 n1 n1 = 0 := by unfold cmp3; exact cmpV_self _ _ _
  have h2 : cmp3 sa sa = 0 := by unfold cmp3; exact cmpV_self _ _ _
  simp only [cmpT, h1, h2, ne_eq, not_true, if_false]
theorem cmp_e2 : cmpT [n1, sa, n2] [n2] = -1 := by
  have h1 : cmp3 n1 n2 = -1 := by simp [cmp3, cmpV, cmpI, or3]
  simp [cmpT, h1]
theorem itoa_1 : (itoaB 1) = ⟨#[49]⟩ := by simp [itoaB, Lib.itoa, Lib.decDigits]
theorem text_e : textT [n1, sa] = ⟨#[40, 49, 44, 32, 97, 41]⟩ := by
  have r1 : isRight 1 1 noText = true := by simp [isRight, inRng]
  have r2 : isRight 2 0 aB = true := by
    have : isName aB.data.toList = true := by decide
    simp [isRight, this]
  have t1 : tx n1 = ⟨#[49]⟩ := by simp only [tx, textV, r1]; exact itoa_1
  have t2 : tx sa = aB := by simp only [tx, textV, r2]; rfl
  have hr : rightT [n1, sa] = true := by simp [rightT, badV, r1, r2]
  simp only [textT, hr, accT, preT, List.map_cons, List.map_nil, t1, t2]
  rfl
theorem short_e : Short [n1, sa] := by
  intro x hx
  simp at hx
  rcases hx with rfl | rfl
  · exact Nat.zero_le _
  · show (1 : Nat) ≤ 2000
    omega

set_option maxRecDepth 100000 in
theorem call_e1 (g g' : Nat) (w : World) (hg : g < w.heap.size) (hg' : g' < w.heap.size) (h0 : At w g 0 n1) (h1 : At w g 3 sa) (k0 : At w g' 0 n1) (k1 : At w g' 3 sa) (k2 : At w g' 6 n2) :
    Calls Tryd.prog 25 #[.slice (some ⟨g, 0, none⟩) 2 2, .slice (some ⟨g', 0, none⟩) 3 3] w fun e w' => e = .returned (.int .i64 (-1)) ∧ Below w.heap.size w w' := by
  have := CompareT_any (some ⟨g, 0, none⟩) (some ⟨g', 0, none⟩) 2 3 [n1, sa] [n1, sa, n2] (by simp [maxLen]) (by simp [maxLen]) w (row2 hg h0 h1) (row3 hg' k0 k1 k2)
  rw [cmp_e1] at this
  exact this
set_option maxRecDepth 100000 in
theorem call_e2 (g g' : Nat) (w : World) (hg : g < w.heap.size) (hg' : g' < w.heap.size) (k0 : At w g 0 n1) (k1 : At w g 3 sa) (k2 : At w g 6 n2) (h0 : At w g' 0 n2) :
    Calls Tryd.prog 25 #[.slice (some ⟨g, 0, none⟩) 3 3, .slice (some ⟨g', 0, none⟩) 1 1] w fun e w' => e = .returned (.int .i64 (-1)) ∧ Below w.heap.size w w' := by
  have := CompareT_any (some ⟨g, 0, none⟩) (some ⟨g', 0, none⟩) 3 1 [n1, sa, n2] [n2] (by simp [maxLen]) (by simp [maxLen]) w (row3 hg k0 k1 k2) (row1 hg' h0)
  rw [cmp_e2] at this
  exact this
set_option maxRecDepth 100000 in
/-- the example's two comparisons, by their lengths. -/
theorem call_e (g g' n m : Nat) (w : World)
    (h : (n = 2 ∧ m = 3 ∧ g < w.heap.size ∧ g' < w.heap.size ∧ At w g 0 n1 ∧ At w g 3 sa ∧ At w g' 0 n1 ∧ At w g' 3 sa ∧ At w g' 6 n2) ∨
      (n = 3 ∧ m = 1 ∧ g < w.heap.size ∧ g' < w.heap.size ∧ At w g 0 n1 ∧ At w g 3 sa ∧ At w g 6 n2 ∧ At w g' 0 n2)) :
    Calls Tryd.prog 25 #[.slice (some ⟨g, 0, none⟩) n n, .slice (some ⟨g', 0, none⟩) m m] w fun e w' => e = .returned (.int .i64 (-1)) ∧ Below w.heap.size w w' := by
  rcases h with ⟨rfl, rfl, h1, h2, h3, h4, h5, h6, h7⟩ | ⟨rfl, rfl, h1, h2, h3, h4, h5, h6⟩
  · exact call_e1 g g' w h1 h2 h3 h4 h5 h6 h7
  · exact call_e2 g g' w h1 h2 h3 h4 h5 h6
set_option maxRecDepth 100000 in
theorem call_e3 (g : Nat) (w : World) (hT : Tab w) (hg : g < w.heap.size) (h0 : At w g 0 n1) (h1 : At w g 3 sa) :
    Calls Tryd.prog 13 #[.slice (some ⟨g, 0, none⟩) 2 2] w fun e w' => e = .returned (.string ⟨#[40, 49, 44, 32, 97, 41]⟩) ∧ Below w.heap.size w w' := by
  have := TextT_any (some ⟨g, 0, none⟩) 2 [n1, sa] (by simp [maxLen]) short_e w hT (row2 hg h0 h1)
  rw [text_e] at this
  exact this

/-- a box beside what was there. -/
abbrev Bx (W : World) (w : World) : Prop :=
  w.cell? ⟨W.heap.size, 0, none⟩ = some (.int .i64 2) ∧ w.cell? ⟨W.heap.size, 1, none⟩ = some (.int .i64 0) ∧ w.cell? ⟨W.heap.size, 2, none⟩ = some (.string aB) ∧ W.heap.size < w.heap.size ∧ Below W.heap.size W w
theorem Bx.step {W w w' : World} (h : Bx W w) (hb : Below w.heap.size w w') : Bx W w' :=
  ⟨(hb.cell h.2.2.2.1).trans h.1, (hb.cell h.2.2.2.1).trans h.2.1, (hb.cell h.2.2.2.1).trans h.2.2.1, Nat.lt_of_lt_of_le h.2.2.2.1 hb.size, h.2.2.2.2.trans (hb.mono (Nat.le_of_lt h.2.2.2.1))⟩
theorem Bx.alloc {W w : World} (h : Bx W w) (o : Obj) : Bx W (w.alloc o) := h.step ((Below.refl _ _).alloc (Nat.le_refl _) _)
theorem Bx.new (W : World) : Bx W (W.alloc (.cells #[.int .i64 2, .int .i64 0, .string aB] 30)) :=
  ⟨by go_simp, by go_simp, by go_simp, by simp, (Below.refl _ _).alloc (Nat.le_refl _) _⟩

theorem bx_below {W w : World} (h : Bx W w) : Below W.heap.size W w := h.2.2.2.2
theorem tab_bx {W w : World} (hT : Tab W) (h : Bx W w) : Tab w := hT.below h.2.2.2.2

set_option maxRecDepth 100000 in
set_option maxHeartbeats 40000000 in
theorem alive_any (w : World) (hT : Tab w) : Calls Tryd.prog 8 #[] w fun e w' => e = .returned (.bool true) ∧ Below w.heap.size w w' := by
  have HT := Lib.hid hT
  clear hT
  have HB := Lib.hid (Bx.new w)
  go_enter Tryd.func8, Tryd.ntmps8
  go_wp2_with fail
  go_region_held3 (fun w' => w'.cell? ⟨w.heap.size, 0, none⟩ = some (.int .i64 2) ∧ w'.cell? ⟨w.heap.size, 1, none⟩ = some (.int .i64 0) ∧ w'.cell? ⟨w.heap.size, 2, none⟩ = some (.string aB) ∧ w.heap.size < w'.heap.size ∧ Below w.heap.size w w')
    (first | assumption | exact HB.out.step (Below.refl _ _).drew | exact Bx.step (by assumption) hb | exact Bx.alloc (by assumption) _ | go_keep)
    (first
      | (go_at_call 28; refine (lit_any _ _).mono ?_; rintro e w' ⟨rfl, rfl⟩)
      | (go_at_call 25; refine (call_e _ _ _ _ _ ?_).mono ?_; (first | (refine Or.inl ⟨rfl, rfl, ?_, ?_, ⟨?_, ?_, ?_⟩, ⟨?_, ?_, ?_⟩, ⟨?_, ?_, ?_⟩, ⟨?_, ?_, ?_⟩, ⟨?_, ?_, ?_⟩⟩ <;> (first | (go_simp; done) | simp)) | (refine Or.inr ⟨rfl, rfl, ?_, ?_, ⟨?_, ?_, ?_⟩, ⟨?_, ?_, ?_⟩, ⟨?_, ?_, ?_⟩, ⟨?_, ?_, ?_⟩⟩ <;> (first | (go_simp; done) | simp))); rintro e w' ⟨rfl, hb⟩)
      | (go_at_call 13; refine (call_e3 _ _ ?_ ?_ ?_ ?_).mono ?_; (exact tab_bx HT.out (by assumption)); (simp); (refine ⟨?_, ?_, ?_⟩ <;> go_simp); (refine ⟨?_, ?_, ?_⟩ <;> go_simp); rintro e w' ⟨rfl, hb⟩))
  all_goals go_wp2
  all_goals go_ret
  all_goals exact ⟨rfl, bx_below (by assumption)⟩
end Go.Proofs.YteamogdbhoajkaaDoor
