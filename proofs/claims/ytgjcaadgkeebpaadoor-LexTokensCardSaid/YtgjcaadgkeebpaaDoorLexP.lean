/- The document's list of tokens. Conditions: texts of at most 10000 bytes. -/
import Derived.Test.YtgjcaadgkeebpaaDoorLexO
namespace Go.Proofs.YtgjcaadgkeebpaaDoor
open Go.RowKit Go.Deep Go.Shelf

theorem infoRt : (Tryd.prog.info? 37).map (fun i => (i.zero, i.size, i.bytes)) = some (some (.agg #[.int .i64 0, .string noText, .int .i64 0]), 3, 32) := by kernel_rfl
/-- the list, between two rounds at offset o. -/
def RfA (w : World) (s : ByteArray) (R : List Tk × Option Nat) (o : Nat) (pre : List Tk) (G : List Nat) (v : Value) (W : World) : Prop :=
  TArr 37 W v pre G ∧ (∀ g ∈ G, w.heap.size ≤ g) ∧ Below w.heap.size w W ∧ pre ++ (lexA kindW o (s.data.toList.drop o)).1 = R.1 ∧ (lexA kindW o (s.data.toList.drop o)).2 = R.2 ∧ pre.length ≤ o
def RfI (w : World) (s : ByteArray) (R : List Tk × Option Nat) (o : Nat) (v : Value) (W : World) : Prop := ∃ pre G, RfA w s R o pre G v W
theorem RfA.below {w : World} {s : ByteArray} {R : List Tk × Option Nat} {o : Nat} {pre : List Tk} {G : List Nat} {v : Value} {W W' : World} (h : RfA w s R o pre G v W) (hb : Below W.heap.size W W') : RfA w s R o pre G v W' := by
  obtain ⟨h1, h2, h3, h4⟩ := h
  exact ⟨h1.kept (Kept.of [] hb) (fun _ _ h => by cases h), h2, h3.trans (hb.mono h3.size), h4⟩
theorem RfA.skip {w : World} {s : ByteArray} {R : List Tk × Option Nat} {o : Nat} {pre : List Tk} {G : List Nat} {v : Value} {W : World} (h : RfA w s R o pre G v W) (k : Nat) (hk : skipN false (s.data.toList.drop o) = k + skipN false ((s.data.toList.drop o).drop k)) : RfA w s R (o + k) pre G v W := by
  obtain ⟨h1, h2, h3, h4, h5, h6⟩ := h
  rw [lexA_skip o _ k hk, List.drop_drop] at h4 h5
  exact ⟨h1, h2, h3, h4, h5, by omega⟩
theorem RfA.push {w : World} {s : ByteArray} {R : List Tk × Option Nat} {o q n g cap : Nat} {t : List UInt8} {pre : List Tk} {G : List Nat} {v : Value} {W w1 : World} {tmp : Obj} (h : RfA w s R o pre G v W)
    (h0 : skipN false (s.data.toList.drop o) = 0) (hn : s.data.toList.drop o ≠ []) (ht : tokOf kindW (s.data.toList.drop o) = some (q, t))
    (ho : w1.ownsRow 0 37 3 (.slice (some ⟨g, 0, none⟩) n cap) n (flatT pre ++ tkC (q, t, o))) (hg : (W.alloc tmp).grownBy w1 v.ownBlock) (hat : (Value.slice (some ⟨g, 0, none⟩) n cap).ownBlock = v.ownBlock ∨ (Value.slice (some ⟨g, 0, none⟩) n cap).ownBlock = some (W.alloc tmp).heap.size) :
    RfI w s R (o + t.length) (.slice (some ⟨g, 0, none⟩) n cap) w1 := by
  obtain ⟨h1, h2, h3, h4, h5, h6⟩ := h
  have hbl := h1.block
  have kw1 : Kept G W w1 := ((Kept.refl G W).alloc tmp).trans (Kept.grown hg hbl) (fun k hk => .inl hk)
  rw [lexA_tok (by rw [h0]; exact hn) (by rw [h0]; exact ht), h0] at h4 h5
  simp only [Nat.add_zero, List.drop_drop] at h4 h5
  have htl := (tok_text ht).1
  have hl0 : 0 < t.length := List.length_pos_iff.2 htl
  refine ⟨pre ++ [(q, t, o)], [g], TArr.of_owns (by rw [flatT_snoc]; exact ho), fun k hk => ?_, h3.trans (kw1.below h3.size h2), by rw [List.append_assoc]; exact h4, h5, by simp; omega⟩
  simp only [List.mem_singleton] at hk
  subst hk
  rcases hat with h | h
  · exact h2 _ (hbl _ h.symm)
  · injection h with h
    have := h3.size
    simp at h
    omega
/-- what List answers, the document's. -/
def RlPost (w : World) (R : List Tk × Option Nat) (e : Ending) (w' : World) : Prop :=
  ∃ A c, e = .returned (.tuple #[.slice A R.1.length c, .int .i64 (match R.2 with | none => -1 | some p => (p : Int))]) ∧ TRow w' A R.1 ∧ Below w.heap.size w w'
theorem RfA.fin {w : World} {s : ByteArray} {R : List Tk × Option Nat} {o : Nat} {pre : List Tk} {G : List Nat} {v : Value} {W : World} (h : RfA w s R o pre G v W) (he : s.data.toList.drop o = []) :
    RlPost w R (.returned (.tuple #[v, .int .i64 (-1)])) W := by
  obtain ⟨h1, h2, h3, h4, h5, h6⟩ := h
  rw [he, lexA_end rfl] at h4 h5
  simp only [List.append_nil] at h4 h5
  obtain ⟨A, c, rfl, _, hr⟩ := h1.row
  rw [h4] at hr
  exact ⟨A, c, by rw [← h5, h4], hr, h3⟩
theorem RfA.bad {w : World} {s : ByteArray} {R : List Tk × Option Nat} {o : Nat} {pre : List Tk} {G : List Nat} {v : Value} {W : World} (h : RfA w s R o pre G v W)
    (h0 : skipN false (s.data.toList.drop o) = 0) (hn : s.data.toList.drop o ≠ []) (ht : tokOf kindW (s.data.toList.drop o) = none) :
    RlPost w R (.returned (.tuple #[v, .int .i64 (o : Int)])) W := by
  obtain ⟨h1, h2, h3, h4, h5, h6⟩ := h
  rw [lexA_bad (by rw [h0]; exact hn) (by rw [h0]; exact ht), h0] at h4 h5
  simp only [List.append_nil, Nat.add_zero] at h4 h5
  obtain ⟨A, c, rfl, _, hr⟩ := h1.row
  rw [h4] at hr
  exact ⟨A, c, by rw [← h5, h4], hr, h3⟩
theorem tok_sign {c : UInt8} {r : List UInt8} (h : wb c = false ∨ c = 95) : tokOf kindW (c :: r) = (signOf (c :: r)).map fun p => (5, p) := by
  rcases h with h | rfl
  · unfold tokOf
    rw [if_pos (by simp [h])]
  · have e1 : (95 :: r : List UInt8).takeWhile wb = 95 :: r.takeWhile wb := by
      rw [List.takeWhile_cons, if_pos (by decide)]
    have e2 : signOf (95 :: r) = none := by
      rw [signOf_eq]
      rw [if_neg, if_neg]
      · simp [inB, oneL]
      · cases r <;> simp [inB, twoL]
    unfold tokOf
    rw [e1, if_neg (by simp), if_pos (kind_under _), e2]
    rfl
theorem tok_word {l : List UInt8} (h : l.takeWhile wb ≠ []) : tokOf kindW l = if kindW (l.takeWhile wb) = 0 then none else some (kindW (l.takeWhile wb), l.takeWhile wb) := by
  unfold tokOf
  rw [if_neg h]
theorem len_two {l : List UInt8} (h : inB twoL (l.take 2) = true) : 2 ≤ l.length := by
  match l with
  | [] => simp [inB, twoL] at h
  | [c] => simp [inB, twoL] at h
  | _ :: _ :: r => simp
theorem len_one {l : List UInt8} (h : inB oneL (l.take 1) = true) : (l.take 1).length = 1 := by
  match l with
  | [] => simp [inB, oneL] at h
  | c :: r => simp
end Go.Proofs.YtgjcaadgkeebpaaDoor
