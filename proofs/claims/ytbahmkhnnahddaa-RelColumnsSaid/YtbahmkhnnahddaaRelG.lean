/- Add of a relation. Conditions: texts no longer than Go's longest, a tuple of at most 50 values. -/
import Derived.Test.YtbahmkhnnahddaaRelF
namespace Go.Proofs.Ytbahmkhnnahddaa
open Go.RowKit Go.Deep Go.Shelf Go.Lib

def addB (a : Int) (L : List (List V3)) (x : List V3) : Bool := decide ((x.length : Int) = a) && rightT x && !fndT L x && decide (L.length < 2000)
def addE (a : Int) (L : List (List V3)) (x : List V3) : Int :=
  if (x.length : Int) ≠ a then 6 else if rightT x = false then 2 else if fndT L x = true then 0 else if 2000 ≤ L.length then 11 else 0
def addL (a : Int) (L : List (List V3)) (x : List V3) : List (List V3) := if addB a L x = true then insT L x else L
theorem Good.add {a : Int} {L : List (List V3)} (h : Good a L) (x : List V3) : Good a (addL a L x) := by
  unfold addL
  split
  · rename_i hb
    simp only [addB, Bool.and_eq_true, decide_eq_true_eq, Bool.not_eq_true'] at hb
    obtain ⟨⟨⟨h1, h2⟩, h3⟩, h4⟩ := hb
    refine ⟨fun l hl => ?_, insT_sor h.2.1 (fnd_not.1 h3), by rw [insT_len]; omega⟩
    rcases insT_mem.1 hl with rfl | hl
    · exact ⟨h2, h1⟩
    · exact h.1 l hl
  · exact h
def AddPost (w : World) (b : Nat) (a : Int) (ts : List TV) (S : List Nat) (x : TV) (e : Ending) (w' : World) : Prop :=
  ∃ ts' S', e = .returned (.tuple #[.bool (addB a (lists ts) x.2.2), errV (addE a (lists ts) x.2.2)]) ∧ RelAt w' b a ts' S' ∧ lists ts' = addL a (lists ts) x.2.2 ∧ Kept S w w' ∧ Sub S' S w.heap.size
theorem AddPost.same {w w' : World} {b : Nat} {a : Int} {ts : List TV} {S : List Nat} {x : TV} {n : Int} (h : RelAt w b a ts S) (hb : Below w.heap.size w w') (h1 : addB a (lists ts) x.2.2 = false) (h2 : addE a (lists ts) x.2.2 = n) :
    AddPost w b a ts S x (.returned (.tuple #[.bool false, errV n])) w' :=
  ⟨ts, S, by rw [h1, h2], h.below hb, by simp [addL, h1], Kept.of S hb, Sub.refl _ _⟩

/-- 'Right' said no, or the arity is another. -/
theorem len_ne (n : Nat) (a : Int) (h : (n : Int) ≠ a) : ((n : Int) != a) = true := by simpa using h

set_option maxRecDepth 100000 in
set_option maxHeartbeats 400000 in
theorem Add_out (b : Nat) (a : Int) (ts : List TV) (S : List Nat) (x : TV) (w : World) (h : RelAt w b a ts S) (hg : Good a (lists ts)) (hx : Row w x.1 x.2.2) (hxl : x.2.2.length ≤ 50) (hf : Fit x.2.2) (hbad : addB a (lists ts) x.2.2 = false) :
    Calls Try.prog 15 #[rp b, tval x] w fun e w' => AddPost w b a ts S x e w' := by
  obtain ⟨A, c, ho, _, _, _⟩ := h.open_
  obtain ⟨X, xc, xl⟩ := x
  simp only at hx hxl hf hbad
  have HR := Lib.hid h
  have HG := Lib.hid hg
  have HX := Lib.hid hx
  have h0 := ho.cell0
  have h1 := ho.cell1
  have q0 := ho.lt
  by_cases hlen : (xl.length : Int) = a
  · have HT := Lib.hid (TRight_any X xc xl (by unfold maxLen; omega) hf w hx)
    by_cases hrt : rightT xl = true
    · rw [hrt] at HT
      by_cases hfn : fndT (lists ts) xl = true
      · have HE : Hid (addE a (lists ts) xl = 0) := by show _ = _; simp [addE, hlen, hrt, hfn]
        have HB := Lib.hid hbad
        have HF := Lib.hid (fun W (hb : Below w.heap.size w W) => find_any b a ts S (X, xc, xl) W (HR.out.below hb) HG.out (HX.out.below hb) (by unfold maxLen; simp only; omega))
        simp only [hfn] at HF
        subst hlen
        clear h hg hx ho hf hbad hrt hfn
        generalize posT (lists ts) xl = p at HF
        go_enter Try.func15, Try.ntmps15
        go_wp2_with fail
        refine HT.out.mono ?_
        rintro e w1 ⟨rfl, b1⟩
        have B1 := Lib.hid b1
        clear b1
        go_wp2_with fail
        refine (HF.out _ B1.out).mono ?_
        rintro e w2 ⟨rfl, b2⟩
        have B2 := Lib.hid (B1.out.trans (b2.mono B1.out.size))
        clear b2
        go_wp2
        refine bodyPost_ret (v := .tuple #[.bool false, .nilIface]) (by simp [results, Try.results15, go_sem]) rfl ?_
        rw [← err0]
        exact AddPost.same HR.out B2.out HB.out HE.out
      · have hfn : fndT (lists ts) xl = false := by simpa using hfn
        have hfull : 2000 ≤ ts.length := by
          simp only [addB, hlen, hrt, hfn, decide_true, Bool.true_and, Bool.not_false] at hbad
          simpa using hbad
        have hc0 : (0 : Int) ≤ (ts.length : Int) := by omega
        have hc1 : (2000 : Int) ≤ (ts.length : Int) := by omega
        have HE : Hid (addE a (lists ts) xl = 11) := by show _ = _; simp [addE, hlen, hrt, hfn, hfull]
        have HB := Lib.hid hbad
        have HF := Lib.hid (fun W (hb : Below w.heap.size w W) => find_any b a ts S (X, xc, xl) W (HR.out.below hb) HG.out (HX.out.below hb) (by unfold maxLen; simp only; omega))
        simp only [hfn] at HF
        subst hlen
        clear h hg hx ho hf hbad hrt hfn hfull
        generalize posT (lists ts) xl = p at HF
        go_enter Try.func15, Try.ntmps15
        go_wp2_with fail
        refine HT.out.mono ?_
        rintro e w1 ⟨rfl, b1⟩
        have B1 := Lib.hid b1
        clear b1
        go_wp2_with fail
        refine (HF.out _ B1.out).mono ?_
        rintro e w2 ⟨rfl, b2⟩
        have B2 := Lib.hid (B1.out.trans (b2.mono B1.out.size))
        have h1 := (B2.out.cell (p := ⟨b, 1, none⟩) q0).trans h1
        have q2 : b < w2.heap.size := Nat.lt_of_lt_of_le q0 B2.out.size
        clear b2 h0
        go_wp2
        refine bodyPost_ret (v := .tuple #[.bool false, eno 11]) (by simp [results, Try.results15, go_sem]) rfl ?_
        rw [← err_eno (by decide)]
        exact AddPost.same HR.out B2.out HB.out HE.out
    · have hrt : rightT xl = false := by simpa using hrt
      rw [hrt] at HT
      have HE : Hid (addE a (lists ts) xl = 2) := by show _ = _; simp [addE, hlen, hrt]
      have HB := Lib.hid hbad
      subst hlen
      clear h hg hx ho hf hbad hrt
      go_enter Try.func15, Try.ntmps15
      go_wp2_with fail
      refine HT.out.mono ?_
      rintro e w1 ⟨rfl, b1⟩
      have B1 := Lib.hid b1
      clear b1
      go_wp2
      refine bodyPost_ret (v := .tuple #[.bool false, eno 2]) (by simp [results, Try.results15, go_sem]) rfl ?_
      rw [← err_eno (by decide)]
      exact AddPost.same HR.out B1.out HB.out HE.out
  · have HE : Hid (addE a (lists ts) xl = 6) := by show _ = _; simp [addE, hlen]
    have HB := Lib.hid hbad
    have hne := len_ne _ _ hlen
    clear h hg hx ho hf hbad hlen
    go_enter Try.func15, Try.ntmps15
    go_wp2
    refine bodyPost_ret (v := .tuple #[.bool false, eno 6]) (by simp [results, Try.results15, go_sem]) rfl ?_
    rw [← err_eno (by decide)]
    exact AddPost.same HR.out (Below.refl _ _) HB.out HE.out
end Go.Proofs.Ytbahmkhnnahddaa
