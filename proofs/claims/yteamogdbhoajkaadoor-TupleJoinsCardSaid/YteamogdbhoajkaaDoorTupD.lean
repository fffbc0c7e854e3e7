/- A tuple's hash, by both. Conditions: texts of at most 2000 bytes; the library's table. -/
import Derived.Test.YteamogdbhoajkaaDoorTupC
namespace Go.Proofs.YteamogdbhoajkaaDoor
open Go.RowKit Go.Deep

/-- texts of at most 2000 bytes. -/
def Short (l : List V3) : Prop := ∀ x ∈ l, x.2.2.size ≤ 2000
theorem Short.fit {l : List V3} (h : Short l) : Fit l := fun x hx => by have := h x hx; unfold maxLen; omega
abbrev nulB : ByteArray := ⟨#[0]⟩
def tx (x : V3) : ByteArray := textV x.1 x.2.1 x.2.2
def hashFrom (h : Int) (l : List V3) : Int := l.foldl (fun h x => mixL h (tx x ++ nulB).data.toList) h
def hashT (l : List V3) : Int := hashFrom 2166136261 l
theorem hash_snoc {l : List V3} {k : Nat} (hk : k < l.length) (h : Int) : hashFrom h (l.take (k + 1)) = mixL (hashFrom h (l.take k)) (tx l[k] ++ nulB).data.toList := by
  unfold hashFrom
  rw [List.take_succ_eq_append_getElem hk, List.foldl_append]
  rfl

theorem itoa_short {n : Int} (h : inRng n = true) : (itoaB n).size ≤ 11 := by
  obtain ⟨h1, h2⟩ := inRng_iff.1 h
  have := itoa_len h1 h2
  show (Lib.itoa n).toArray.size ≤ 11
  simpa using this
theorem tx_short {x : V3} (h : x.2.2.size ≤ 2000) : (tx x).size ≤ 2000 := by
  obtain ⟨k, n, s⟩ := x
  unfold tx textV
  simp only at h ⊢
  split
  · rename_i hr
    split
    · rename_i hk
      subst hk
      have := itoa_short (right_one hr).1
      omega
    · exact h
  · exact Nat.zero_le _

theorem push_get (t : ByteArray) (j : Nat) (hj : j < t.size) : (t ++ nulB).data.toList.getD j 0 = t.data.toList.getD j 0 := by
  have : (t ++ nulB).data.toList = t.data.toList ++ [0] := by simp [nulB]
  have hj' : j < t.data.toList.length := by simpa using hj
  rw [this]
  simp only [List.getD]
  rw [List.getElem?_append_left hj']
theorem push_last (t : ByteArray) : (t ++ nulB).data.toList.getD t.size 0 = 0 := by
  have : (t ++ nulB).data.toList = t.data.toList ++ [0] := by simp [nulB]
  rw [this]
  simp [List.getD]
theorem push_size (t : ByteArray) : (t ++ nulB).size = t.size + 1 := by rw [ByteArray.size_append]; rfl
/-- the bytes of a text, a byte 0 behind them, at the head of a block. -/
def Bytes0 (w : World) (g : Nat) (t : ByteArray) : Prop := ∀ j, j < (t ++ nulB).size → w.cell? ⟨g, j, none⟩ = some (.int .u8 ((t ++ nulB).data.toList.getD j 0).toNat)
theorem infoByte : (Tryd.prog.info? 5).map (fun i => (i.zero, i.size, i.bytes)) = some (some (.int .u8 0), 1, 1) := by kernel_rfl

/-- 'append(bytes, 0)', whether there is room or not. -/
theorem append0 (w : World) {ops : Array Oper} {rest : List Oper} {o : Oper} {a : Act} {Q : Exit → Act → World → Prop}
    (hg : o.guard = none) (s x : Operand) (hop : o.op = Op.call { callee := Callee.builtin Builtin.append, args := #[s, x], argTypes := #[65, 65] })
    (base g cap g2 : Nat) (t : ByteArray) (hbase : base ≤ g) (hbw : base ≤ w.heap.size) (hs : a.eval s = .slice (some ⟨g, 0, none⟩) t.size cap)
    (holds : ∀ j, j < t.size → w.cell? ⟨g, j, none⟩ = some (.int .u8 (t.data.toList.getD j 0).toNat))
    (hroom : t.size < cap → (w.cell? ⟨g, t.size, none⟩).isSome = true ∧ w.frozen? ⟨g, t.size, none⟩ = false)
    (hx : a.eval x = .slice (some ⟨g2, 0, none⟩) 1 1) (h2 : w.cell? ⟨g2, 0, none⟩ = some (.int .u8 0)) (hsz : t.size ≤ 2000)
    (hK : ∀ g' cap' w', Below base w w' → Bytes0 w' g' t → wpList Tryd.prog ops Q rest (a.put o.dst (.slice (some ⟨g', 0, none⟩) (t.size + 1) cap')) w') :
    wpList Tryd.prog ops Q (o :: rest) a w := by
  obtain ⟨i, hi, hz, hs1, hb⟩ := info_parts infoByte
  have hold : ∀ (j : Nat) u, (t.data.toList.map fun c => Value.int .u8 c.toNat)[j]? = some u → w.cell? ⟨g, 0 + j, none⟩ = some u := by
    intro j u hu
    have hj : j < t.size := by
      have := (List.getElem?_eq_some_iff.1 hu).1
      simpa using this
    rw [Nat.zero_add, holds j hj, ← hu]
    simp [List.getD, hj]
  refine wpList_append_arg w hg s x 65 hop 5 i (.int .u8 0) 1 1 Tryd.underlying65 hi hz hs1 hb rfl (by decide) g 0 t.size cap (t.data.toList.map fun c => .int .u8 c.toNat) hs (by simp) hold
    ⟨g2, 0, none⟩ 1 1 [.int .u8 0] hx rfl ?_ (by simp; rfl) ?_ (by unfold maxLen; omega) (by omega) ?_ ?_
  · intro j u hu
    match j, hu with
    | 0, hu => simp at hu; subst hu; simpa [Addr.add] using h2
  · intro hr j hj
    have hj0 : j = 0 := by simpa using hj
    subst hj0
    simpa using hroom (by omega)
  · intro hr
    refine hK g cap _ ?_ ?_
    · exact (Below.refl _ _).setCell hbase _
    · intro j hj
      rw [push_size] at hj
      simp only [World.setCells, Nat.mul_one, Nat.zero_add]
      rcases Nat.lt_or_ge j t.size with h | h
      · rw [World.cell?_setCell_other w _ _ _ (by intro e; injection e with _ e; omega), push_get t j h]
        exact holds j h
      · have e : j = t.size := by omega
        subst e
        rw [push_last]
        have := (hroom (by omega)).1
        obtain ⟨u, hu⟩ := Option.isSome_iff_exists.1 this
        rw [World.cell?_setCell_same _ _ _ hu]
        rfl
  · intro hlt v' w' ho hgr
    obtain ⟨g', cap', rfl, hg', _⟩ := ho.form (by omega)
    refine hK g' cap' w' ((Below.refl _ _).grown hgr hbw (by simp)) ?_
    intro j hj
    have hc := ho.cells (g := g') rfl j (.int .u8 ((t ++ nulB).data.toList.getD j 0).toNat) (by
      rw [push_size] at hj
      have e : (t.data.toList.map (fun c => Value.int .u8 c.toNat) ++ [Value.int .u8 0]) = (t ++ nulB).data.toList.map (fun c => Value.int .u8 c.toNat) := by simp [nulB]
      have hj' : j < (t ++ nulB).data.toList.length := by
        show j < (t ++ nulB).data.toList.length
        rw [Array.length_toList]
        show j < (t ++ nulB).size
        rw [push_size]
        exact hj
      rw [e, List.getElem?_map, List.getElem?_eq_getElem hj', List.getD, List.getElem?_eq_getElem hj']
      rfl)
    have ha : Addr.add ⟨g', 0, none⟩ j = ⟨g', j, none⟩ := by
      unfold Addr.add
      split
      · subst j; rfl
      · simp
    rw [ha] at hc
    exact hc
end Go.Proofs.YteamogdbhoajkaaDoor
