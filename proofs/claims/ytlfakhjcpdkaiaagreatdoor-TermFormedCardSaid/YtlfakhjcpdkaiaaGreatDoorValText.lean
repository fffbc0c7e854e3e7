/- What value.Text gives, and that the law's own fixed fact (alive) is true, wherever the library's table of powers of ten is as its initialiser lays it. Conditions: texts no longer than Go's longest; the table. -/
import Derived.Test.YtlfakhjcpdkaiaaGreatDoorValParts
import Derived.Test.YtlfakhjcpdkaiaaGreatDoorValCmp
import Derived.Test.YtlfakhjcpdkaiaaGreatDoorShelf
namespace Go.Proofs.YtlfakhjcpdkaiaaGreatDoor
open Go.RowKit

theorem gPow : Tryz.prog.globalNamed "internal/strconv.uint64pow10" = some 5 := by kernel_rfl
/-- the library's table is as its initialiser lays it. -/
def Tab (w : World) : Prop := Lib.TabIs Tryz.prog w "internal/strconv.uint64pow10" .u64 Lib.pow10Tab
theorem var_below {n : String} {g : Nat} {cs : Array Value} {w w' : World} (hg : Tryz.prog.globalNamed n = some g) (h : World.var? Tryz.prog w n = some cs) (hb : Below w.heap.size w w') : World.var? Tryz.prog w' n = some cs := by
  unfold World.var? at h ⊢
  rw [hg] at h ⊢
  simp only [Option.bind_some] at h ⊢
  have hlt : g < w.heap.size := by
    rcases Nat.lt_or_ge g w.heap.size with h' | h'
    · exact h'
    · rw [Array.getElem?_eq_none h'] at h; cases h
  rw [hb.block g hlt]
  exact h
theorem Tab.below {w w' : World} (h : Tab w) (hb : Below w.heap.size w w') : Tab w' := var_below gPow h hb

theorem bcell {w w1 : World} (hb : Below w.heap.size w w1) : (∀ b o, b < w.heap.size → w1.cell? ⟨b, o, none⟩ = w.cell? ⟨b, o, none⟩) ∧ (∀ b o, b < w.heap.size → w1.frozen? ⟨b, o, none⟩ = w.frozen? ⟨b, o, none⟩) :=
  ⟨fun b o h => hb.cell (p := ⟨b, o, none⟩) h, fun b o h => hb.frozen (p := ⟨b, o, none⟩) h⟩

/-- a box that holds a value. -/
def Box (w : World) (b : Nat) (k n : Int) (s : ByteArray) : Prop :=
  w.cell? ⟨b, 0, none⟩ = some (.int .i64 k) ∧ w.cell? ⟨b, 1, none⟩ = some (.int .i64 n) ∧ w.cell? ⟨b, 2, none⟩ = some (.string s) ∧ b < w.heap.size
theorem Box.new (w : World) (k n : Int) (s : ByteArray) : Box (w.alloc (.cells #[.int .i64 k, .int .i64 n, .string s] 39)) w.heap.size k n s := by
  refine ⟨?_, ?_, ?_, ?_⟩ <;> go_simp
theorem Box.below {w w' : World} {b : Nat} {k n : Int} {s : ByteArray} (h : Box w b k n s) (hb : Below w.heap.size w w') : Box w' b k n s :=
  ⟨(hb.cell (p := ⟨b, 0, none⟩) h.2.2.2).trans h.1, (hb.cell (p := ⟨b, 1, none⟩) h.2.2.2).trans h.2.1, (hb.cell (p := ⟨b, 2, none⟩) h.2.2.2).trans h.2.2.1, Nat.lt_of_lt_of_le h.2.2.2 hb.size⟩

theorem below_regrow (w : World) (q : Nat) (os : Array Obj) : Below w.heap.size w (Sort.grow (w.drewN q) os) :=
  ⟨rfl, rfl, rfl, by simp [Sort.grow], fun k hk => by
    show (w.heap ++ os)[k]? = _
    rw [Array.getElem?_append_left hk]⟩

theorem ret_str {a b : ByteArray} (h : a = b) : Ending.returned (.string a) = Ending.returned (.string b) := by rw [h]

/-- a text's bytes. -/
def itoaB (n : Int) : ByteArray := ⟨(Lib.itoa n).toArray⟩
/-- a value's text. -/
def textV (k n : Int) (s : ByteArray) : ByteArray := if isRight k n s = true then (if k = 1 then itoaB n else s) else noText

theorem Itoa_any (n : Int) (h : inRng n = true) (w : World) (hT : Tab w) :
    Calls Tryz.prog 112 #[.int .i64 n] w fun e w' => e = .returned (.string (itoaB n)) ∧ Below w.heap.size w w' := by
  obtain ⟨h1, h2⟩ := inRng_iff.1 h
  refine (Tryz.strconv_Itoa n (by omega) (by omega) w hT).mono fun e w' hh => ?_
  obtain ⟨he, q, os, hw⟩ := hh
  subst hw
  exact ⟨he, below_regrow _ _ _⟩

theorem Right_is (k n : Int) (s : ByteArray) (b : Bool) (h : isRight k n s = b) (hs : s.size ≤ maxLen) (w : World) :
    Calls Tryz.prog 70 #[vv k n s] w fun e w' => e = .returned (.bool b) ∧ Below w.heap.size w w' := by
  subst h; exact Right_any k n s w hs

theorem right_one {n : Int} {s : ByteArray} (h : isRight 1 n s = true) : inRng n = true ∧ s = noText := by
  simp only [isRight, if_pos, Bool.and_eq_true] at h
  refine ⟨h.2, ?_⟩
  cases s with
  | mk d => cases d with
    | mk l => cases l with
      | nil => rfl
      | cons a r => simp at h

set_option maxHeartbeats 1000000 in
theorem Text_any (k n : Int) (s : ByteArray) (w : World) (hs : s.size ≤ maxLen) (hT : Tab w) :
    Calls Tryz.prog 109 #[vv k n s] w fun e w' => e = .returned (.string (textV k n s)) ∧ Below w.heap.size w w' := by
  have HT := Lib.hid hT
  clear hT
  cases hr : isRight k n s with
  | false =>
    have HR := Lib.hid hr
    have HX := Lib.hid (show textV k n s = noText by simp only [textV, hr]; rfl)
    clear hr
    go_enter Tryz.func109, Tryz.ntmps109
    go_wp2_with fail
    refine (Right_is _ _ _ _ HR.out hs _).mono ?_
    rintro e w1 ⟨rfl, b1⟩
    go_wp2
    go_ret
    exact ⟨ret_str HX.out.symm, ((Below.refl _ _).alloc (Nat.le_refl _) _).trans (b1.mono (by simp))⟩
  | true =>
    have HR := Lib.hid hr
    by_cases hk : k = 1
    · subst hk
      obtain ⟨hn, rfl⟩ := right_one hr
      have HN := Lib.hid hn
      have HX := Lib.hid (show textV 1 n noText = itoaB n by simp only [textV, hr]; rfl)
      clear hr hn
      go_enter Tryz.func109, Tryz.ntmps109
      go_wp2_with fail
      refine (Right_is _ _ _ _ HR.out hs _).mono ?_
      rintro e w1 ⟨rfl, b1⟩
      obtain ⟨c1, f1⟩ := bcell b1
      have B1 := ((Below.refl w.heap.size w).alloc (Nat.le_refl _) _).trans (b1.mono (by simp))
      go_wp2_with fail
      refine (Itoa_any _ HN.out _ (HT.out.below B1)).mono ?_
      rintro e w2 ⟨rfl, b2⟩
      go_wp2
      go_ret
      exact ⟨ret_str HX.out.symm, B1.trans (b2.mono B1.size)⟩
    · have HX := Lib.hid (show textV k n s = s by simp only [textV, hr, hk]; rfl)
      have bk : (k == 1) = false := by simpa using hk
      clear hr hk
      go_enter Tryz.func109, Tryz.ntmps109
      go_wp2_with fail
      refine (Right_is _ _ _ _ HR.out hs _).mono ?_
      rintro e w1 ⟨rfl, b1⟩
      obtain ⟨c1, f1⟩ := bcell b1
      go_wp2
      go_ret
      exact ⟨ret_str HX.out.symm, ((Below.refl _ _).alloc (Nat.le_refl _) _).trans (b1.mono (by simp))⟩

theorem Text_is (k n : Int) (s t : ByteArray) (h : textV k n s = t) (hs : s.size ≤ maxLen) (w : World) (hT : Tab w) :
    Calls Tryz.prog 109 #[vv k n s] w fun e w' => e = .returned (.string t) ∧ Below w.heap.size w w' := by
  subst h; exact Text_any k n s w hs hT
theorem text_minus5 : textV 1 (-5) noText = ⟨#[45, 53]⟩ := by
  have h : isRight 1 (-5) noText = true := by simp [isRight, inRng]
  simp only [textV, h, if_pos]
  simp [itoaB, Lib.itoa, Lib.decDigits]
theorem cmp_a : cmpV 1 (-5) noText 1 3 noText = -1 := by
  have h : Op.bytesLess noText.toList noText.toList = false := by rw [Lib.toList_data]; rfl
  simp [cmpV, cmpI, or3]
theorem cmp_b : cmpV 1 3 noText 2 0 ⟨#[97]⟩ = -1 := by simp [cmpV, cmpI, or3]
theorem name_a : isName (⟨#[97]⟩ : ByteArray).data.toList = true := by decide
theorem rng_m5 : inRng (-5) = true := by decide
theorem rng_3 : inRng 3 = true := by decide

end Go.Proofs.YtlfakhjcpdkaiaaGreatDoor
