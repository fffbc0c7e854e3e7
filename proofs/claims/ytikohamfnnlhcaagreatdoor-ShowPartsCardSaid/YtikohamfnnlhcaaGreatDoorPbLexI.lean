/- Slices of tokens that a call makes: what is known of them; one token more. Conditions: none. -/
import Derived.Test.YtikohamfnnlhcaaGreatDoorPbLexH
import Derived.Maps.OwnIn
import Derived.Maps.AppendAt
namespace Go.Proofs.YtikohamfnnlhcaaGreatDoor
open Go.RowKit Go.Deep Go.Shelf

/-- a token's cells. -/
abbrev tkC (x : Tk) : List Value := [.int .i64 (x.1 : Int), .string (bts x.2.1), .int .i64 (x.2.2 : Int)]
def flatT (L : List Tk) : List Value := L.flatMap tkC
theorem flatT_snoc (L : List Tk) (x : Tk) : flatT (L ++ [x]) = flatT L ++ tkC x := by simp [flatT]
theorem flatT_len : ∀ L : List Tk, (flatT L).length = L.length * 3
  | [] => rfl
  | x :: L => by
    have := flatT_len L
    unfold flatT at this ⊢
    rw [List.flatMap_cons, List.length_append, this]
    simp only [List.length_cons, List.length_nil]
    omega
theorem flatT_at : ∀ (L : List Tk) (i : Nat) (x : Tk), L[i]? = some x → (flatT L)[i * 3]? = some (.int .i64 (x.1 : Int)) ∧ (flatT L)[i * 3 + 1]? = some (.string (bts x.2.1)) ∧ (flatT L)[i * 3 + 2]? = some (.int .i64 (x.2.2 : Int))
  | [], i, x, h => by simp at h
  | y :: L, 0, x, h => by
    simp only [List.getElem?_cons_zero, Option.some.injEq] at h
    subst h
    exact ⟨rfl, rfl, rfl⟩
  | y :: L, i + 1, x, h => by
    have ih := flatT_at L i x (by simpa using h)
    have e : flatT (y :: L) = .int .i64 (y.1 : Int) :: .string (bts y.2.1) :: .int .i64 (y.2.2 : Int) :: flatT L := rfl
    rw [e, show (i + 1) * 3 = i * 3 + 1 + 1 + 1 by omega]
    simpa using ih
/-- a slice of tokens in a block of its own. -/
def TArr (e : TypeId) (w : World) (v : Value) (L : List Tk) (G : List Nat) : Prop :=
  (v = .slice none 0 0 ∧ L = [] ∧ G = []) ∨ ∃ g cap sp, v = .slice (some ⟨g, 0, none⟩) L.length cap ∧ G = [g] ∧ L.length ≤ cap ∧ cap ≤ maxLen ∧ Own w g e (flatT L ++ sp) ∧ (flatT L ++ sp).length = cap * 3
/-- tokens that lie in a row. -/
def TRow (w : World) (A : Option Addr) (L : List Tk) : Prop :=
  0 < L.length → ∃ b o, A = some ⟨b, o, none⟩ ∧ b < w.heap.size ∧ ∀ (i : Nat) x, L[i]? = some x → w.cell? ⟨b, o + i * 3, none⟩ = some (.int .i64 (x.1 : Int)) ∧ w.cell? ⟨b, o + i * 3 + 1, none⟩ = some (.string (bts x.2.1)) ∧ w.cell? ⟨b, o + i * 3 + 2, none⟩ = some (.int .i64 (x.2.2 : Int))
theorem TRow.below {w w' : World} {A : Option Addr} {L : List Tk} (h : TRow w A L) (hb : Below w.heap.size w w') : TRow w' A L := fun h0 => by
  obtain ⟨b, o, h1, h2, h3⟩ := h h0
  refine ⟨b, o, h1, Nat.lt_of_lt_of_le h2 hb.size, fun i x hx => ?_⟩
  obtain ⟨c0, c1, c2⟩ := h3 i x hx
  exact ⟨(hb.cell (p := ⟨b, _, none⟩) h2).trans c0, (hb.cell (p := ⟨b, _, none⟩) h2).trans c1, (hb.cell (p := ⟨b, _, none⟩) h2).trans c2⟩
section
variable {e : TypeId} {w w' : World} {v : Value} {L : List Tk} {G S : List Nat}
theorem TArr.kept (h : TArr e w v L G) (hk : Kept S w w') (hn : ∀ g ∈ G, g ∉ S) : TArr e w' v L G := by
  rcases h with h | ⟨g, cap, sp, h1, rfl, h3, h4, h5, h6⟩
  · exact .inl h
  · exact .inr ⟨g, cap, sp, h1, rfl, h3, h4, hk.own h5 (hn g (by simp)), h6⟩
theorem TArr.calm {B : Nat} (h : TArr e w v L G) (hk : Calm B w w') : TArr e w' v L G := by
  rcases h with h | ⟨g, cap, sp, h1, h2, h3, h4, h5, h6⟩
  · exact .inl h
  · exact .inr ⟨g, cap, sp, h1, h2, h3, h4, hk.own h5, h6⟩
theorem TArr.block (h : TArr e w v L G) : ∀ k, v.ownBlock = some k → k ∈ G := by
  intro k hk
  rcases h with ⟨rfl, _⟩ | ⟨g, cap, sp, rfl, rfl, _⟩
  · cases hk
  · injection hk with hk
    simp [← hk]
theorem TArr.val (h : TArr e w v L G) : ∃ A c, v = .slice A L.length c ∧ (A = none → c = 0) := by
  rcases h with ⟨rfl, rfl, _⟩ | ⟨g, cap, sp, rfl, _⟩
  · exact ⟨none, 0, rfl, fun _ => rfl⟩
  · exact ⟨_, _, rfl, fun h => by cases h⟩
theorem TArr.owns (h : TArr e w v L G) : w.ownsRow 0 e 3 v L.length (flatT L) := by
  refine ⟨flatT_len L, ?_⟩
  rcases h with ⟨rfl, rfl, _⟩ | ⟨g, cap, sp, rfl, _, h3, h4, h5, h6⟩
  · exact .inl ⟨rfl, rfl⟩
  · refine .inr ⟨g, cap, _, rfl, Nat.zero_le _, h5, h3, h4, by simpa using h6, ?_⟩
    rw [← flatT_len L]
    simp
theorem TArr.of_owns {g n cap : Nat} (h : w.ownsRow 0 e 3 (.slice (some ⟨g, 0, none⟩) n cap) n (flatT L)) : TArr e w (.slice (some ⟨g, 0, none⟩) n cap) L [g] := by
  obtain ⟨h1, ⟨h2, _⟩ | ⟨g', cap', cur, h2, _, h3, h4, h5, h6, h7⟩⟩ := h
  · cases h2
  · injection h2 with a1 _ a3
    injection a1 with a1
    injection a1 with a1
    subst a1 a3
    have hn : L.length = n := by
      have := flatT_len L
      omega
    refine .inr ⟨g, cap, cur.toList.drop (n * 3), by rw [hn], rfl, by omega, h5, ?_, ?_⟩
    · have e1 : flatT L ++ cur.toList.drop (n * 3) = cur.toList := by rw [← h7, List.take_append_drop]
      unfold Own
      rw [h3, e1]
    · rw [← h7, List.take_append_drop]
      simpa using h6
theorem TArr.row (h : TArr e w v L G) : ∃ A c, v = .slice A L.length c ∧ (A = none → c = 0) ∧ TRow w A L := by
  rcases h with ⟨rfl, rfl, _⟩ | ⟨g, cap, sp, rfl, _, h3, h4, h5, h6⟩
  · exact ⟨none, 0, rfl, fun _ => rfl, fun h => absurd h (by simp)⟩
  · refine ⟨_, _, rfl, (fun h => by cases h), fun _ => ⟨g, 0, rfl, h5.lt, fun i x hx => ?_⟩⟩
    have hi : i < L.length := (List.getElem?_eq_some_iff.1 hx).1
    have hl := flatT_len L
    obtain ⟨c0, c1, c2⟩ := flatT_at L i x hx
    rw [Nat.zero_add, h5.cell, h5.cell, h5.cell, List.getElem?_append_left (by omega), List.getElem?_append_left (by omega), List.getElem?_append_left (by omega)]
    exact ⟨c0, c1, c2⟩
end
end Go.Proofs.YtikohamfnnlhcaaGreatDoor
