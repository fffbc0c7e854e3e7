/- tuple.Join; numbers appended to a row of the call's own. Conditions: tuples of at most 50 values. -/
import Derived.Test.YteamogdbhoajkaaDoorTupV
import Derived.Test.YteamogdbhoajkaaDoorTupW
namespace Go.Proofs.YteamogdbhoajkaaDoor
open Go.RowKit Go.Deep

set_option maxRecDepth 100000 in
set_option maxHeartbeats 400000 in
theorem Join_many (A A' : Option Addr) (c c' : Nat) (a b : List V3) (ha : a.length ≤ 50) (hb : b.length ≤ 50) (h6 : (6 : Int) < (a.length : Int) + (b.length : Int)) (w : World) :
    Calls Tryd.prog 26 #[.slice A a.length c, .slice A' b.length c'] w fun e w' => e = .returned (.tuple #[.slice none 0 0, eno 6]) ∧ Below w.heap.size w w' := by
  go_enter Tryd.func26, Tryd.ntmps26
  go_wp2
  refine bodyPost_ret (v := .tuple #[.slice none 0 0, eno 6]) (by simp [results, Tryd.results26, go_sem]) rfl ⟨rfl, Below.refl _ _⟩

/-- a call that hands back the tuple l and no error. -/
def GotJ (w : World) (l : List V3) (e : Ending) (w' : World) : Prop :=
  ∃ A c, e = .returned (.tuple #[.slice A l.length c, .nilIface]) ∧ Row w' A l ∧ Below w.heap.size w w'
set_option maxRecDepth 100000 in
set_option maxHeartbeats 400000 in
theorem Join_ok (A A' : Option Addr) (c c' : Nat) (a b : List V3) (h6 : ¬ (6 : Int) < (a.length : Int) + (b.length : Int)) (hn : A = none → c = 0) (hn' : A' = none → c' = 0) (w : World) (hr : Row w A a) (hr' : Row w A' b) :
    Calls Tryd.prog 26 #[.slice A a.length c, .slice A' b.length c'] w fun e w' => GotJ w (a ++ b) e w' := by
  obtain ⟨w0, hw0⟩ : ∃ w0, w0 = w.alloc (.cells #[.slice A a.length c, .slice A' b.length c'] 23) := ⟨_, rfl⟩
  have B0 : Below w.heap.size w w0 := by rw [hw0]; exact (Below.refl _ _).alloc (Nat.le_refl _) _
  have e1 : allT [(A, c, a), (A', c', b)] = a ++ b := by simp [allT]
  have hcat := Concat_any w.heap.size 2 [(A, c, a), (A', c', b)] (by simp) (by rw [e1, List.length_append]; omega) w0 (by rw [hw0]; simp) (fun j t ht => by
      match j, ht with
      | 0, ht => simp at ht; subst ht; rw [hw0]; go_simp
      | 1, ht => simp at ht; subst ht; rw [hw0]; go_simp) (fun t ht => by
      simp at ht
      rcases ht with rfl | rfl
      · exact ⟨hr.below B0, hn⟩
      · exact ⟨hr'.below B0, hn'⟩)
  rw [e1] at hcat
  have HC := Lib.hid hcat
  have HB := Lib.hid B0
  have HW := Lib.hid hw0
  have e2 : (a ++ b).length = a.length + b.length := List.length_append
  have HE := Lib.hid e2
  clear hcat B0 hw0 e1 e2 hr hr' hn hn'
  go_enter Tryd.func26, Tryd.ntmps26
  go_wp2_with fail
  rw [← HW.out]
  refine HC.out.mono ?_
  rintro e w1 ⟨A2, c2, rfl, _, _, r2, b2⟩
  have B2 := Lib.hid (HB.out.trans (b2.mono HB.out.size))
  have R2 := Lib.hid r2
  clear b2 r2
  go_wp2
  refine bodyPost_ret (v := .tuple #[.slice A2 (a ++ b).length c2, .nilIface]) (by simp [results, Tryd.results26, go_sem]) rfl ⟨A2, c2, rfl, R2.out, B2.out⟩

/-- numbers as cells. -/
def ints (l : List Int) : List Value := l.map (Value.int .i64)
theorem infoInt : (Tryd.prog.info? 3).map (fun i => (i.zero, i.size, i.bytes)) = some (some (.int .i64 0), 1, 8) := by kernel_rfl
theorem own_value1 {w : World} {base n : Nat} {e : TypeId} {v : Value} {xs : List Value} (h : w.ownsRow base e 1 v n xs) : ∃ A c, v = .slice A n c ∧ (A = none → c = 0) ∧ ∀ g, v.ownBlock = some g → base ≤ g := by
  rcases h.2 with ⟨h1, h2⟩ | ⟨g, cap, cur, h1, hg, _⟩
  · exact ⟨none, 0, by rw [h1, h2], (fun _ => rfl), fun g hg => by rw [h1] at hg; cases hg⟩
  · refine ⟨_, cap, h1, (fun h => by cases h), fun g' hg' => ?_⟩
    rw [h1] at hg'
    simp [Value.ownBlock] at hg'
    omega
theorem Cols.own {w : World} {base n : Nat} {e : TypeId} {A : Option Addr} {c : Nat} {l : List Int} (h : w.ownsRow base e 1 (.slice A n c) n (ints l)) : n = l.length ∧ Cols w A l := by
  have hn : n = l.length := by have := h.1; simp [ints] at this; omega
  subst hn
  refine ⟨rfl, fun h0 => ?_⟩
  obtain ⟨g, cap, hv, _, hlt⟩ := h.form h0
  have hA : A = some ⟨g, 0, none⟩ := by injection hv
  subst hA
  refine ⟨g, 0, rfl, hlt, fun i z hz => ?_⟩
  have := h.cells (g := g) rfl i (.int .i64 z) (by rw [ints, List.getElem?_map, hz]; rfl)
  have ha : Addr.add ⟨g, 0, none⟩ i = ⟨g, 0 + i, none⟩ := by
    unfold Addr.add
    split
    · subst i; rfl
    · rfl
  rw [ha] at this
  exact this

set_option maxRecDepth 100000 in
/-- 'append(own, n)', n a number that has just been laid in a block of its own. -/
theorem append_int (w : World) {ops : Array Oper} {rest : List Oper} {o : Oper} {a : Act} {Q : Exit → Act → World → Prop}
    (hg : o.guard = none) (s x : Operand) (hop : o.op = Op.call { callee := Callee.builtin Builtin.append, args := #[s, x], argTypes := #[37, 37] })
    (base : Nat) (L : List Int) (v : Value) (n : Nat) (hs : a.eval s = v) (hown : w.ownsRow base 3 1 v n (ints L)) (z : Int)
    (hx : a.eval x = .slice (some ⟨w.heap.size, 0, none⟩) 1 1) (hsz : n ≤ 1000) (hbase : base ≤ w.heap.size)
    (hK : ∀ A' c' w', w'.ownsRow base 3 1 (.slice A' (n + 1) c') (n + 1) (ints (L ++ [z])) → (w.alloc (.cells #[.int .i64 z] 3)).grownBy w' v.ownBlock → wpList Tryd.prog ops Q rest (a.put o.dst (.slice A' (n + 1) c')) w') :
    wpList Tryd.prog ops Q (o :: rest) a (w.alloc (.cells #[.int .i64 z] 3)) := by
  obtain ⟨i, hi, hz, hs1, hb⟩ := info_parts infoInt
  refine wpList_append_own _ hg s x 37 hop base 3 i _ 1 8 Tryd.underlying37 hi hz hs1 hb rfl (by decide) v n (ints L) hs (hown.alloc _) ⟨w.heap.size, 0, none⟩ 1 1 (ints [z]) hx rfl ?_ (by simp [ints]; rfl) (by unfold maxLen; omega) (by omega) (by simp; omega) ?_
  · intro j u hu
    match j, hu with
    | 0, hu => simp [ints] at hu; subst hu; simp [Addr.add]
  · intro v' w' ho hgr _
    rw [show ints L ++ ints [z] = ints (L ++ [z]) from (List.map_append).symm] at ho
    obtain ⟨A', c', rfl, _, _⟩ := own_value1 ho
    exact hK A' c' w' ho hgr
end Go.Proofs.YteamogdbhoajkaaDoor
