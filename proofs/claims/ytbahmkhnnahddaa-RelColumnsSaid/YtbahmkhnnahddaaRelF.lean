/- find, Has, Len, Arity of a relation; errors as numbers. Conditions: at most 2000 tuples. -/
import Derived.Test.YtbahmkhnnahddaaRelE
namespace Go.Proofs.Ytbahmkhnnahddaa
open Go.RowKit Go.Deep Go.Shelf Go.Lib

def errV (n : Int) : Value := if n = 0 then .nilIface else eno n
theorem err_eno {n : Int} (h : n ≠ 0) : errV n = eno n := by simp [errV, h]
theorem err0 : errV 0 = .nilIface := by simp [errV]
set_option maxRecDepth 100000 in
set_option maxHeartbeats 400000 in
theorem Num_any (n : Int) (w : World) : Calls Try.prog 17 #[errV n] w fun e w' => e = .returned (.int .i64 n) ∧ w = w' := by
  by_cases h0 : n = 0
  · subst h0
    rw [err0]
    have k1 : ∀ w, (binOp .eql 26 .nilIface .nilIface).run Try.prog w = .ok (.bool true) w := fun w => by kernel_rfl
    go_enter Try.func17, Try.ntmps17
    go_wp2
    go_ret
    exact ⟨rfl, rfl⟩
  · have e : errV n = eno n := by simp [errV, h0]
    rw [e]
    have hb : (n != 0) = true := by simpa using h0
    have k1 : ∀ w, (binOp .eql 26 (eno n) .nilIface).run Try.prog w = .ok (.bool false) w := fun w => by kernel_rfl
    have k2 := fun w => assert_eno n w
    clear h0 e
    go_enter Try.func17, Try.ntmps17
    go_wp2
    go_ret
    exact ⟨rfl, rfl⟩

section
variable {S : List Nat} {w w' : World} {b : Nat} {a : Int} {ts : List TV}
theorem RelAt.rows (h : RelAt w b a ts S) : ∀ t ∈ ts, RowO S w t.1 t.2.2 := by
  obtain ⟨_, _, _, _, _, _, ht⟩ := h
  exact fun t h1 => (ht t h1).1
theorem RelAt.open_ (h : RelAt w b a ts S) : ∃ A c, Own w b 77 [.int .i64 a, .slice A ts.length c] ∧ (A = none → c = 0) ∧ Lst [] w A ts ∧ ts.length ≤ c := by
  obtain ⟨v, G, rfl, ho, ha, hb, ht⟩ := h
  obtain ⟨A, c, rfl, h1, h2, h3⟩ := ha.lst [] (fun _ _ h => by cases h) (fun t h1 => (ht t h1).1.nil')
  exact ⟨A, c, ho, h1, h2, h3⟩
end
theorem right_fit {l : List V3} (h : rightT l = true) : l.length ≤ maxLen := by
  have := right_six h
  unfold maxLen
  omega
theorem Good.fits {a : Int} {ts : List TV} (h : Good a (lists ts)) : Fits ts := fun _ ht => right_fit ((h.1 _ (List.mem_map_of_mem ht)).1)
theorem Good.len {a : Int} {ts : List TV} (h : Good a (lists ts)) : ts.length ≤ 2000 := by simpa using h.2.2

set_option maxRecDepth 100000 in
set_option maxHeartbeats 400000 in
theorem find_any (b : Nat) (a : Int) (ts : List TV) (S : List Nat) (x : TV) (w : World) (h : RelAt w b a ts S) (hg : Good a (lists ts)) (hx : Row w x.1 x.2.2) (hxl : x.2.2.length ≤ maxLen) :
    Calls Try.prog 39 #[rp b, tval x] w fun e w' => e = .returned (.tuple #[.int .i64 (posT (lists ts) x.2.2), .bool (fndT (lists ts) x.2.2)]) ∧ Below w.heap.size w w' := by
  obtain ⟨A, c, ho, hn, hl, _⟩ := h.open_
  have HS := Lib.hid (Search_any A c ts x w hl hx hxl hg.len hg.fits hg.2.1)
  have HL := Lib.hid (list_at b a _ w ho A ts.length c rfl)
  clear h hg hx ho hn hl
  generalize posT (lists ts) x.2.2 = p at HS ⊢
  generalize fndT (lists ts) x.2.2 = q at HS ⊢
  go_enter Try.func39, Try.ntmps39
  go_wp2_with fail
  refine HL.out.mono ?_
  rintro e w1 ⟨rfl, rfl⟩
  go_wp2_with fail
  refine HS.out.mono ?_
  rintro e w1 ⟨rfl, b1⟩
  go_wp2
  refine bodyPost_ret (v := .tuple #[.int .i64 p, .bool q]) (by simp [results, Try.results39, go_sem]) rfl ⟨rfl, b1⟩

set_option maxRecDepth 100000 in
set_option maxHeartbeats 400000 in
theorem Has_any (b : Nat) (a : Int) (ts : List TV) (S : List Nat) (x : TV) (w : World) (h : RelAt w b a ts S) (hg : Good a (lists ts)) (hx : Row w x.1 x.2.2) (hxl : x.2.2.length ≤ maxLen) :
    Calls Try.prog 18 #[rp b, tval x] w fun e w' => e = .returned (.bool (fndT (lists ts) x.2.2)) ∧ Below w.heap.size w w' := by
  have HF := Lib.hid (find_any b a ts S x w h hg hx hxl)
  clear h hg hx
  generalize posT (lists ts) x.2.2 = p at HF
  generalize fndT (lists ts) x.2.2 = q at HF ⊢
  go_enter Try.func18, Try.ntmps18
  go_wp2_with fail
  refine HF.out.mono ?_
  rintro e w1 ⟨rfl, b1⟩
  go_wp2
  go_ret
  exact ⟨rfl, b1⟩

set_option maxRecDepth 100000 in
set_option maxHeartbeats 400000 in
theorem Len_any (b : Nat) (a : Int) (ts : List TV) (S : List Nat) (w : World) (h : RelAt w b a ts S) :
    Calls Try.prog 36 #[rp b] w fun e w' => e = .returned (.int .i64 ts.length) ∧ w = w' := by
  obtain ⟨A, c, ho, hn, hl, _⟩ := h.open_
  have HL := Lib.hid (list_at b a _ w ho A ts.length c rfl)
  clear h ho hn hl
  go_enter Try.func36, Try.ntmps36
  go_wp2_with fail
  refine HL.out.mono ?_
  rintro e w1 ⟨rfl, rfl⟩
  go_wp2
  go_ret
  exact ⟨rfl, rfl⟩
set_option maxRecDepth 100000 in
set_option maxHeartbeats 400000 in
theorem Arity_any (b : Nat) (a : Int) (ts : List TV) (S : List Nat) (w : World) (h : RelAt w b a ts S) :
    Calls Try.prog 49 #[rp b] w fun e w' => e = .returned (.int .i64 a) ∧ w = w' := by
  obtain ⟨A, c, ho, hn, hl, _⟩ := h.open_
  have h0 := ho.cell0
  have q0 := ho.lt
  clear h ho hn hl
  go_enter Try.func49, Try.ntmps49
  go_wp2
  go_ret
  exact ⟨rfl, rfl⟩
end Go.Proofs.Ytbahmkhnnahddaa
