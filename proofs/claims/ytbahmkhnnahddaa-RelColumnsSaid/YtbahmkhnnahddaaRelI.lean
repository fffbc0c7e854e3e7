/- New, addAll, Of. Conditions: texts no longer than Go's longest, tuples of at most 50 values. -/
import Derived.Test.YtbahmkhnnahddaaRelH
namespace Go.Proofs.Ytbahmkhnnahddaa
open Go.RowKit Go.Deep Go.Shelf

/-- a tuple that may be added: its form. -/
def Tok (x : TV) : Prop := (x.1 = none → x.2.1 = 0) ∧ x.2.2.length ≤ 50 ∧ Fit x.2.2
theorem addE_ok {a : Int} {L : List (List V3)} {x : List V3} (h : addB a L x = true) : addE a L x = 0 := by
  simp only [addB, Bool.and_eq_true, decide_eq_true_eq, Bool.not_eq_true'] at h
  obtain ⟨⟨⟨h1, h2⟩, h3⟩, h4⟩ := h
  simp [addE, h1, h2, h3]
  omega
theorem Add_any (b : Nat) (a : Int) (ts : List TV) (S : List Nat) (x : TV) (w : World) (h : RelAt w b a ts S) (hg : Good a (lists ts)) (hx : Row w x.1 x.2.2) (ht : Tok x) :
    Calls Try.prog 15 #[rp b, tval x] w fun e w' => AddPost w b a ts S x e w' := by
  by_cases hok : addB a (lists ts) x.2.2 = true
  · exact Add_ins b a ts S x w h hg hx ht.1 ht.2.2 hok
  · exact Add_out b a ts S x w h hg hx ht.2.1 ht.2.2 (by simpa using hok)

set_option maxRecDepth 100000 in
set_option maxHeartbeats 400000 in
theorem New_bad (a : Int) (w : World) (h : a < 0 ∨ 6 < a) : Calls Try.prog 9 #[.int .i64 a] w fun e w' => e = .returned (.tuple #[.pointer none, eno 6]) ∧ w = w' := by
  by_cases h0 : a < 0
  · go_enter Try.func9, Try.ntmps9
    go_wp2
    refine bodyPost_ret (v := .tuple #[.pointer none, eno 6]) (by simp [results, Try.results9, go_sem]) rfl ⟨rfl, rfl⟩
  · have h6 : 6 < a := by omega
    go_enter Try.func9, Try.ntmps9
    go_wp2
    refine bodyPost_ret (v := .tuple #[.pointer none, eno 6]) (by simp [results, Try.results9, go_sem]) rfl ⟨rfl, rfl⟩
/-- a new relation without tuples. -/
theorem rel_new (w : World) (a : Int) : RelAt (w.alloc (.cells #[.int .i64 a, .slice none 0 0] 77)) w.heap.size a [] [w.heap.size] :=
  ⟨.slice none 0 0, [], rfl, heap_alloc_new w _, .inl ⟨rfl, rfl, rfl⟩, List.not_mem_nil, fun _ h => by cases h⟩
set_option maxRecDepth 100000 in
set_option maxHeartbeats 400000 in
theorem New_ok (a : Int) (w : World) (h : 0 ≤ a) (h6 : a ≤ 6) : Calls Try.prog 9 #[.int .i64 a] w fun e w' => e = .returned (.tuple #[rp w.heap.size, .nilIface]) ∧ RelAt w' w.heap.size a [] [w.heap.size] ∧ Below w.heap.size w w' := by
  have HQ := Lib.hid (rel_new w a)
  go_enter Try.func9, Try.ntmps9
  go_wp2
  refine bodyPost_ret (v := .tuple #[rp w.heap.size, .nilIface]) (by simp [results, Try.results9, go_sem]) rfl ⟨rfl, HQ.out, (Below.refl _ _).alloc (Nat.le_refl _) _⟩

def allE (a : Int) : List (List V3) → List (List V3) → Int
  | _, [] => 0
  | L, x :: r => if addE a L x = 0 then allE a (addL a L x) r else addE a L x
def allL (a : Int) : List (List V3) → List (List V3) → List (List V3)
  | L, [] => L
  | L, x :: r => if addE a L x = 0 then allL a (addL a L x) r else L
theorem allE_step {a : Int} {L : List (List V3)} {xs : List TV} {k : Nat} (hk : k < xs.length) (h : addE a L xs[k].2.2 = 0) : allE a L (lists (xs.drop k)) = allE a (addL a L xs[k].2.2) (lists (xs.drop (k + 1))) ∧ allL a L (lists (xs.drop k)) = allL a (addL a L xs[k].2.2) (lists (xs.drop (k + 1))) := by
  rw [List.drop_eq_getElem_cons hk]
  constructor <;> (simp only [lists, List.map_cons, allE, allL]; rw [if_pos h])
theorem allE_stop {a : Int} {L : List (List V3)} {xs : List TV} {k : Nat} (hk : k < xs.length) (h : addE a L xs[k].2.2 ≠ 0) : allE a L (lists (xs.drop k)) = addE a L xs[k].2.2 ∧ allL a L (lists (xs.drop k)) = L := by
  rw [List.drop_eq_getElem_cons hk]
  constructor <;> (simp only [lists, List.map_cons, allE, allL]; rw [if_neg h])
theorem addL_bad {a : Int} {L : List (List V3)} {x : List V3} (h : addE a L x ≠ 0) : addL a L x = L := by
  unfold addL
  split
  · rename_i hb
    exact absurd (addE_ok hb) h
  · rfl

def AllPost (w : World) (b : Nat) (a : Int) (S : List Nat) (n : Int) (L : List (List V3)) (e : Ending) (w' : World) : Prop :=
  ∃ ts' S', e = .returned (errV n) ∧ RelAt w' b a ts' S' ∧ lists ts' = L ∧ Kept S w w' ∧ Sub S' S w.heap.size

theorem neq_nil (w : World) : (binOp .neq 26 .nilIface .nilIface).run Try.prog w = .ok (.bool false) w := by kernel_rfl
theorem neq_eno (n : Int) (w : World) : (binOp .neq 26 (eno n) .nilIface).run Try.prog w = .ok (.bool true) w := by kernel_rfl
/-- what a loop over tuples has come to. -/
def AllAt (w wr : World) (b : Nat) (a : Int) (S : List Nat) (n : Int) (L : List (List V3)) (rest : List TV) : Prop :=
  ∃ ts' S', RelAt wr b a ts' S' ∧ Good a (lists ts') ∧ Kept S w wr ∧ Sub S' S w.heap.size ∧ n = allE a (lists ts') (lists rest) ∧ L = allL a (lists ts') (lists rest)

set_option maxRecDepth 100000 in
set_option maxHeartbeats 400000 in
theorem addAll_any (b : Nat) (a : Int) (ts : List TV) (S : List Nat) (A : Option Addr) (c : Nat) (xs : List TV) (w : World) (h : RelAt w b a ts S) (hg : Good a (lists ts)) (hl : Lst S w A xs) (ht : ∀ x ∈ xs, Tok x) (hn : xs.length ≤ maxLen) :
    Calls Try.prog 50 #[rp b, .slice A xs.length c] w fun e w' => AllPost w b a S (allE a (lists ts) (lists xs)) (allL a (lists ts) (lists xs)) e w' := by
  unfold maxLen at hn
  have HL := Lib.hid hl
  have HT := Lib.hid ht
  have H0 := Lib.hid (show AllAt w w b a S (allE a (lists ts) (lists xs)) (allL a (lists ts) (lists xs)) (xs.drop 0) from ⟨ts, S, h, hg, Kept.refl _ _, Sub.refl _ _, rfl, rfl⟩)
  clear h hg hl ht
  generalize allE a (lists ts) (lists xs) = n at H0 ⊢
  generalize allL a (lists ts) (lists xs) = L at H0 ⊢
  go_enter Try.func50, Try.ntmps50
  go_wp2
  go_loopw [11] (fun i wr => ∃ k : Nat, k ≤ xs.length ∧ i = .int .i64 k ∧ Hid (AllAt w wr b a S n L (xs.drop k))) (fun i _ => xs.length - (intOf i).toNat)
  case atStart => exact ⟨0, Nat.zero_le _, rfl, H0.out⟩
  case round =>
    obtain ⟨k, hk, rfl, HI⟩ := hrel
    by_cases hlt : k < xs.length
    · obtain ⟨ts', S', hR, hG, hK, hS, hE, hL⟩ := HI.out
      obtain ⟨g, o, rfl, hgw, hgS, hc, hr⟩ := HL.out.at_ hlt
      have hc := (hK.cell (p := ⟨g, o + k, none⟩) hgw hgS).trans hc
      have hgr : g < wr.heap.size := Nat.lt_of_lt_of_le hgw hK.size
      have hA := Add_any b a ts' S' xs[k] wr hR hG (hr.kept hK (Sub.refl _ _)).row (HT.out _ (List.getElem_mem hlt))
      have HST := Lib.hid (fun h => allE_step (a := a) (L := lists ts') hlt h)
      have HSP := Lib.hid (fun h => allE_stop (a := a) (L := lists ts') hlt h)
      have HGA := Lib.hid (hG.add xs[k].2.2)
      generalize xs[k] = x at hc hA HST HSP HGA
      have HA := Lib.hid hA
      have HAB := Lib.hid (fun h => addL_bad (a := a) (L := lists ts') (x := x.2.2) h)
      have HEq := Lib.hid hE
      have HLq := Lib.hid hL
      have HK := Lib.hid hK
      have HS := Lib.hid hS
      have HRS := Lib.hid hR.sub
      clear HI hR hG hK hS hE hL hA hr
      obtain ⟨X, xc, xl⟩ := x
      change wr.cell? ⟨g, o + k, none⟩ = some (.slice X xl.length xc) at hc
      simp only at HST HSP HGA HAB
      go_wp2_with fail
      refine HA.out.mono ?_
      rintro e w1 ⟨ts1, S1, rfl, hr1, hl1, hk1, hs1⟩
      simp only at hl1
      have HR1 := Lib.hid hr1
      have HL1 := Lib.hid hl1
      have HK1 := Lib.hid (HK.out.trans hk1 HS.out)
      have HS1 := Lib.hid (HS.out.trans hs1 HK.out.size)
      clear hr1 hl1 hk1 hs1 hc HA HK HS HRS
      generalize addB a (lists ts') xl = r
      by_cases h0 : addE a (lists ts') xl = 0
      · have HQ : Hid (AllAt w w1 b a S n L (xs.drop (k + 1))) := ⟨ts1, S1, HR1.out, by rw [HL1.out]; exact HGA.out, HK1.out, HS1.out, by rw [HL1.out, ← (HST.out h0).1]; exact HEq.out, by rw [HL1.out, ← (HST.out h0).2]; exact HLq.out⟩
        rw [h0, err0]
        have k1 := neq_nil
        clear HST HSP HGA HAB HR1 HL1 HK1 HS1 h0 HEq HLq
        go_wp2
        go_roundw
        case rel => exact ⟨k + 1, by omega, by go_num, HQ.out⟩
        case measure => simp [intOf]; omega
      · have HQ : Hid (AllPost w b a S n L (.returned (errV (addE a (lists ts') xl))) w1) := ⟨ts1, S1, by rw [HEq.out, (HSP.out h0).1], HR1.out, by rw [HL1.out, HAB.out h0, HLq.out, (HSP.out h0).2], HK1.out, HS1.out⟩
        rw [err_eno h0] at HQ ⊢
        have k1 := neq_eno (addE a (lists ts') xl)
        clear HST HSP HGA HAB HR1 HL1 HK1 HS1 h0 HEq HLq
        generalize addE a (lists ts') xl = m at HQ k1
        go_wp2
        go_ret
        exact HQ.out
    · have HQ : Hid (AllPost w b a S n L (.returned .nilIface) wr) := by
        obtain ⟨ts', S', hR, hG, hK, hS, hE, hL⟩ := HI.out
        rw [List.drop_eq_nil_of_le (by omega)] at hE hL
        exact ⟨ts', S', by rw [hE, ← err0]; rfl, hR, hL.symm, hK, hS⟩
      go_wp2
      go_ret
      exact HQ.out
end Go.Proofs.Ytbahmkhnnahddaa
