/- What a program is made of, as data: terms, expressions, literals, rules; what is right, what is the same, variables, sizes. Conditions: none. -/
import Derived.Test.YtikohamfnnlhcaaGreatDoorScC
set_option linter.unusedVariables false
set_option linter.unusedSimpArgs false
namespace Go.Proofs.YtikohamfnnlhcaaGreatDoor

structure TTm where
  v : ByteArray
  k : Int
  n : Int
  s : ByteArray
  deriving DecidableEq
inductive TEx where
  | mk (op : Int) (t : TTm) (kids : List TEx)
structure TAm where
  rel : ByteArray
  args : List TTm
structure TLt where
  kind : Int
  atom : TAm
  op : Int
  left : TEx
  right : TEx
  pos : Int
structure TRu where
  head : TAm
  agg : Int
  col : Int
  body : List TLt
  pos : Int
structure TDe where
  rel : ByteArray
  kinds : List Int
  pos : Int
structure TPg where
  decls : List TDe
  rules : List TRu
def TEx.op : TEx → Int | .mk o _ _ => o
def TEx.t : TEx → TTm | .mk _ t _ => t
def TEx.kids : TEx → List TEx | .mk _ _ l => l

mutual
/-- how many nodes. -/
def cntE : TEx → Nat
  | .mk _ _ ks => 1 + cntEs ks
def cntEs : List TEx → Nat
  | [] => 0
  | k :: ks => cntE k + cntEs ks
end
theorem cntEs_append : ∀ (a b : List TEx), cntEs (a ++ b) = cntEs a + cntEs b
  | [], b => by simp [cntEs]
  | k :: ks, b => by rw [List.cons_append, cntEs, cntEs, cntEs_append ks b]; omega
theorem cntE_pos (e : TEx) : 1 ≤ cntE e := by cases e; rw [cntE]; omega
theorem cntE_kid {e : TEx} {k : Nat} (h : k < e.kids.length) : cntE e.kids[k] < cntE e := by
  cases e with
  | mk o t ks =>
    change k < ks.length at h
    show cntE ks[k] < cntE (.mk o t ks)
    have h1 : cntEs ks = cntEs (ks.take k) + cntEs (ks.drop k) := by rw [← cntEs_append, List.take_append_drop]
    rw [List.drop_eq_getElem_cons h, cntEs] at h1
    rw [cntE]
    omega
theorem cntEs_len : ∀ (l : List TEx), l.length ≤ cntEs l
  | [] => Nat.zero_le _
  | k :: ks => by
    have := cntE_pos k
    have := cntEs_len ks
    rw [cntEs, List.length_cons]
    omega
/-- one token of a kind, and nothing around it. -/
def soleB (q : Nat) (s : ByteArray) : Bool := decide (tokOf kindW s.data.toList = some (q, s.data.toList))
def zT : TTm := ⟨noText, 0, 0, noText⟩
def zVal (t : TTm) : Bool := decide (t.k = 0) && (decide (t.n = 0) && decide (t.s = noText))
def rightTm (t : TTm) : Bool := if t.v.size = 0 then isRight t.k t.n t.s else soleB 3 t.v && zVal t
def rightE : Nat → TEx → Bool
  | 0, .mk op t ks => decide (op = 0) && (decide (ks.length = 0) && rightTm t)
  | d + 1, .mk op t ks => if op = 0 then decide (ks.length = 0) && rightTm t else
      decide (1 ≤ op ∧ op ≤ 3) && (decide (t = zT) && match ks with | [a, b] => rightE d a && rightE d b | _ => false)
def zeroE (e : TEx) : Bool := decide (e.op = 0) && (decide (e.t = zT) && decide (e.kids.length = 0))
def rightAm (a : TAm) : Bool := soleB 2 a.rel && (decide (a.args.length ≤ 6) && a.args.all rightTm)
def zeroAm (a : TAm) : Bool := decide (a.rel.size = 0) && decide (a.args.length = 0)
def rightLt (l : TLt) : Bool :=
  if l.kind = 1 ∨ l.kind = 2 then rightAm l.atom && (decide (l.op = 0) && (zeroE l.left && zeroE l.right))
  else if l.kind = 3 then zeroAm l.atom && (decide (1 ≤ l.op ∧ l.op ≤ 6) && (rightE 20 l.left && rightE 20 l.right))
  else false
def aggB (r : TRu) : Bool :=
  if r.agg = 0 ∧ r.col = 0 then true else
  decide (1 ≤ r.agg ∧ r.agg ≤ 4) && match r.head.args[r.col.toNat]? with | some t => decide (0 ≤ r.col) && decide (t.v.size ≠ 0) | none => false
def rightRu (r : TRu) : Bool := rightAm r.head && (aggB r && (decide (r.body.length ≤ 8) && r.body.all rightLt))
def kindB (k : Int) : Bool := decide (k = 1 ∨ k = 2)
def rightDe (d : TDe) : Bool := soleB 2 d.rel && (decide (d.kinds.length ≤ 6) && d.kinds.all kindB)
def formedB (p : TPg) : Bool := (decide (p.decls.length ≤ 32) && p.decls.all rightDe) && (decide (p.rules.length ≤ 64) && p.rules.all rightRu)

/-- what is left of a size. -/
def tcost (t : TTm) : Int := 1 + ((t.v.size : Int) + (t.s.size : Int)) / 50
mutual
def leftE : TEx → Int → Int
  | .mk _ t ks, l => leftEs ks (l - tcost t)
def leftEs : List TEx → Int → Int
  | [], l => l
  | k :: ks, l => if l < 0 then -1 else leftEs ks (leftE k l)
end
def leftTs : List TTm → Int → Int
  | [], l => l
  | t :: ts, l => if l - tcost t < 0 then -1 else leftTs ts (l - tcost t)
def leftAm (a : TAm) (l : Int) : Int := leftTs a.args (l - (1 + (a.rel.size : Int) / 50))
def leftB : List TLt → Int → Int
  | [], l => l
  | x :: xs, l => if l < 0 then -1 else leftB xs (leftE x.right (leftE x.left (leftAm x.atom l)))
def leftRu (r : TRu) (l : Int) : Int := leftB r.body (leftAm r.head l)
def leftDs : List TDe → Int → Int
  | [], l => l
  | d :: ds, l => if l - (1 + (d.rel.size : Int) / 50 + d.kinds.length) < 0 then -1 else leftDs ds (l - (1 + (d.rel.size : Int) / 50 + d.kinds.length))
def leftRs : List TRu → Int → Int
  | [], l => l
  | r :: rs, l => if leftRu r (l - 1) < 0 then -1 else leftRs rs (leftRu r (l - 1))
def leftPg (p : TPg) (l : Int) : Int := if leftDs p.decls l < 0 then -1 else leftRs p.rules (leftDs p.decls l)
theorem tcost_pos (t : TTm) : 1 ≤ tcost t := by unfold tcost; omega
mutual
theorem leftE_cnt : ∀ (e : TEx) (l : Int), 0 ≤ leftE e l → cntE e + leftE e l ≤ l
  | .mk o t ks, l, h => by
    rw [leftE] at h ⊢
    have h1 := leftEs_cnt ks _ h
    have h2 := tcost_pos t
    rw [cntE]
    omega
theorem leftEs_cnt : ∀ (ks : List TEx) (l : Int), 0 ≤ leftEs ks l → cntEs ks + leftEs ks l ≤ l
  | [], l, h => by rw [leftEs, cntEs]; omega
  | k :: ks, l, h => by
    rw [leftEs] at h ⊢
    split at h
    · omega
    · rename_i h0
      rw [if_neg h0, cntEs]
      have h1 := leftEs_cnt ks _ h
      have h2 := leftE_cnt k l (by omega)
      omega
end
def okTm (t : TTm) : Prop := t.v.size ≤ 140737488351232 ∧ t.s.size ≤ 140737488351232
theorem tcost_le {t : TTm} (h : okTm t) : tcost t ≤ 8796093022208 := by
  obtain ⟨h1, h2⟩ := h
  unfold tcost
  omega
theorem leftTs_cnt : ∀ (ts : List TTm) (l : Int), 0 ≤ leftTs ts l → ts.length + leftTs ts l ≤ l
  | [], l, h => by simp [leftTs]
  | t :: ts, l, h => by
    rw [leftTs] at h ⊢
    split at h
    · omega
    · rename_i h0
      rw [if_neg h0, List.length_cons]
      have h1 := leftTs_cnt ts _ h
      have h2 := tcost_pos t
      omega
theorem leftE_eq (e : TEx) (l : Int) : leftE e l = leftEs e.kids (l - tcost e.t) := by cases e; rw [leftE]; rfl
mutual
def okE : TEx → Prop
  | .mk _ t ks => okTm t ∧ okEs ks
def okEs : List TEx → Prop
  | [] => True
  | k :: ks => okE k ∧ okEs ks
end
theorem okEs_of : ∀ {l : List TEx}, (∀ (i : Nat) y, l[i]? = some y → okE y) → okEs l
  | [], _ => by rw [okEs]; trivial
  | k :: ks, h => by rw [okEs]; exact ⟨h 0 k rfl, okEs_of fun i y hy => h (i + 1) y (by simpa using hy)⟩
theorem okEs_at : ∀ {l : List TEx} {k : Nat} (hk : k < l.length), okEs l → okE l[k]
  | _ :: _, 0, _, h => by rw [okEs] at h; exact h.1
  | x :: xs, k + 1, hk, h => by rw [okEs] at h; exact okEs_at (l := xs) (by simpa using hk) h.2
mutual
theorem leftE_lo : ∀ (e : TEx) (l m : Int), okE e → m ≤ l → m ≤ 0 → m - 8796093022208 ≤ leftE e l
  | .mk o t ks, l, m, h, h1, h2 => by
    rw [okE] at h
    rw [leftE]
    have h3 := tcost_le h.1
    exact leftEs_lo ks _ _ h.2 (by omega) (by omega)
theorem leftEs_lo : ∀ (ks : List TEx) (l m : Int), okEs ks → m ≤ l → m ≤ -8796093022208 → m ≤ leftEs ks l
  | [], l, m, _, h1, _ => by rw [leftEs]; exact h1
  | k :: ks, l, m, h, h1, h2 => by
    rw [okEs] at h
    rw [leftEs]
    split
    · omega
    · have h3 := leftE_lo k l 0 h.1 (by omega) (by omega)
      exact leftEs_lo ks _ m h.2 (by omega) h2
end
mutual
theorem leftE_up : ∀ (e : TEx) (l m : Int), l ≤ m → 0 ≤ m → leftE e l ≤ m
  | .mk o t ks, l, m, h, h0 => by
    rw [leftE]
    have h3 := tcost_pos t
    exact leftEs_up ks _ m (by omega) h0
theorem leftEs_up : ∀ (ks : List TEx) (l m : Int), l ≤ m → 0 ≤ m → leftEs ks l ≤ m
  | [], l, m, h, _ => by rw [leftEs]; exact h
  | k :: ks, l, m, h, h0 => by
    rw [leftEs]
    split
    · omega
    · exact leftEs_up ks _ m (leftE_up k l m h h0) h0
end
theorem leftEs_neg {l : List TEx} {k : Nat} {x : Int} (hk : k < l.length) (h : x < 0) : leftEs (l.drop k) x = -1 := by rw [List.drop_eq_getElem_cons hk, leftEs, if_pos h]
theorem leftEs_step {l : List TEx} {k : Nat} {x : Int} (hk : k < l.length) (h : ¬ x < 0) : leftEs (l.drop k) x = leftEs (l.drop (k + 1)) (leftE l[k] x) := by rw [List.drop_eq_getElem_cons hk, leftEs, if_neg h]
theorem leftEs_end {l : List TEx} {k : Nat} {x : Int} (hk : ¬ k < l.length) : leftEs (l.drop k) x = x := by rw [List.drop_eq_nil_of_le (by omega), leftEs]
theorem leftTs_neg {l : List TTm} {k : Nat} {x : Int} (hk : k < l.length) (h : x - tcost l[k] < 0) : leftTs (l.drop k) x = -1 := by rw [List.drop_eq_getElem_cons hk, leftTs, if_pos h]
theorem leftTs_step {l : List TTm} {k : Nat} {x : Int} (hk : k < l.length) (h : ¬ x - tcost l[k] < 0) : leftTs (l.drop k) x = leftTs (l.drop (k + 1)) (x - tcost l[k]) := by rw [List.drop_eq_getElem_cons hk, leftTs, if_neg h]
theorem leftTs_end {l : List TTm} {k : Nat} {x : Int} (hk : ¬ k < l.length) : leftTs (l.drop k) x = x := by rw [List.drop_eq_nil_of_le (by omega), leftTs]
theorem leftTs_lo : ∀ (ts : List TTm) (l m : Int), m ≤ l → m ≤ -1 → m ≤ leftTs ts l
  | [], l, m, h, _ => by rw [leftTs]; exact h
  | t :: ts, l, m, h, h1 => by
    rw [leftTs]
    split
    · omega
    · exact leftTs_lo ts _ m (by omega) h1
theorem leftTs_up : ∀ (ts : List TTm) (l m : Int), l ≤ m → -1 ≤ m → leftTs ts l ≤ m
  | [], l, m, h, _ => by rw [leftTs]; exact h
  | t :: ts, l, m, h, h1 => by
    rw [leftTs]
    split
    · omega
    · have := tcost_pos t
      exact leftTs_up ts _ m (by omega) h1
theorem leftB_neg {l : List TLt} {k : Nat} {x : Int} (hk : k < l.length) (h : x < 0) : leftB (l.drop k) x = -1 := by rw [List.drop_eq_getElem_cons hk, leftB, if_pos h]
theorem leftB_step {l : List TLt} {k : Nat} {x : Int} (hk : k < l.length) (h : ¬ x < 0) : leftB (l.drop k) x = leftB (l.drop (k + 1)) (leftE l[k].right (leftE l[k].left (leftAm l[k].atom x))) := by rw [List.drop_eq_getElem_cons hk, leftB, if_neg h]
theorem leftB_end {l : List TLt} {k : Nat} {x : Int} (hk : ¬ k < l.length) : leftB (l.drop k) x = x := by rw [List.drop_eq_nil_of_le (by omega), leftB]
theorem leftRs_neg {l : List TRu} {k : Nat} {x : Int} (hk : k < l.length) (h : leftRu l[k] (x - 1) < 0) : leftRs (l.drop k) x = -1 := by rw [List.drop_eq_getElem_cons hk, leftRs, if_pos h]
theorem leftRs_step {l : List TRu} {k : Nat} {x : Int} (hk : k < l.length) (h : ¬ leftRu l[k] (x - 1) < 0) : leftRs (l.drop k) x = leftRs (l.drop (k + 1)) (leftRu l[k] (x - 1)) := by rw [List.drop_eq_getElem_cons hk, leftRs, if_neg h]
theorem leftRs_end {l : List TRu} {k : Nat} {x : Int} (hk : ¬ k < l.length) : leftRs (l.drop k) x = x := by rw [List.drop_eq_nil_of_le (by omega), leftRs]
def dcost (d : TDe) : Int := 1 + (d.rel.size : Int) / 50 + d.kinds.length
theorem leftDs_neg {l : List TDe} {k : Nat} {x : Int} (hk : k < l.length) (h : x - dcost l[k] < 0) : leftDs (l.drop k) x = -1 := by rw [List.drop_eq_getElem_cons hk, leftDs]; exact if_pos h
theorem leftDs_step {l : List TDe} {k : Nat} {x : Int} (hk : k < l.length) (h : ¬ x - dcost l[k] < 0) : leftDs (l.drop k) x = leftDs (l.drop (k + 1)) (x - dcost l[k]) := by rw [List.drop_eq_getElem_cons hk, leftDs]; exact if_neg h
theorem leftDs_end {l : List TDe} {k : Nat} {x : Int} (hk : ¬ k < l.length) : leftDs (l.drop k) x = x := by rw [List.drop_eq_nil_of_le (by omega), leftDs]
/-- sizes: of an atom, of literals. -/
def cntLt (x : TLt) : Nat := x.atom.args.length + cntE x.left + cntE x.right
def cntB (l : List TLt) : Nat := (l.map cntLt).sum
theorem leftB_cnt : ∀ (xs : List TLt) (l : Int), 0 ≤ leftB xs l → cntB xs + leftB xs l ≤ l
  | [], l, h => by simp [leftB, cntB]
  | x :: xs, l, h => by
    rw [leftB] at h ⊢
    split at h
    · omega
    · rename_i h0
      rw [if_neg h0]
      have h1 := leftB_cnt xs _ h
      have e : cntB (x :: xs) = cntLt x + cntB xs := rfl
      have h2 := leftE_cnt x.right (leftE x.left (leftAm x.atom l)) (by omega)
      have h3 := leftE_cnt x.left (leftAm x.atom l) (by omega)
      have hA : leftAm x.atom l = leftTs x.atom.args (l - (1 + (x.atom.rel.size : Int) / 50)) := rfl
      have h4 := leftTs_cnt x.atom.args (l - (1 + (x.atom.rel.size : Int) / 50)) (by omega)
      have e2 : cntLt x = x.atom.args.length + cntE x.left + cntE x.right := rfl
      omega
def cntRu (r : TRu) : Nat := r.head.args.length + cntB r.body
theorem leftRu_cnt {r : TRu} {l : Int} (h : 0 ≤ leftRu r l) : cntRu r + leftRu r l ≤ l := by
  unfold leftRu leftAm at h ⊢
  have h1 := leftB_cnt r.body _ h
  have h2 := leftTs_cnt r.head.args (l - (1 + (r.head.rel.size : Int) / 50)) (by omega)
  unfold cntRu
  omega
theorem leftRs_each : ∀ (rs : List TRu) (l : Int), 0 ≤ leftRs rs l → rs.length + leftRs rs l ≤ l ∧ ∀ r ∈ rs, cntRu r ≤ l
  | [], l, h => ⟨by simp [leftRs], fun r hr => by cases hr⟩
  | r :: rs, l, h => by
    rw [leftRs] at h ⊢
    split at h
    · omega
    · rename_i h0
      rw [if_neg h0, List.length_cons]
      obtain ⟨h1, h2⟩ := leftRs_each rs _ h
      have h3 := leftRu_cnt (r := r) (l := l - 1) (by omega)
      refine ⟨by omega, fun x hx => ?_⟩
      rcases List.mem_cons.1 hx with rfl | hx
      · omega
      · have := h2 x hx
        omega
theorem leftDs_each : ∀ (ds : List TDe) (l : Int), 0 ≤ leftDs ds l → ds.length + leftDs ds l ≤ l ∧ ∀ d ∈ ds, d.kinds.length ≤ l
  | [], l, h => ⟨by simp [leftDs], fun r hr => by cases hr⟩
  | d :: ds, l, h => by
    rw [leftDs] at h ⊢
    split at h
    · omega
    · rename_i h0
      rw [if_neg h0, List.length_cons]
      obtain ⟨h1, h2⟩ := leftDs_each ds _ h
      refine ⟨by omega, fun x hx => ?_⟩
      rcases List.mem_cons.1 hx with rfl | hx
      · omega
      · have := h2 x hx
        omega
/-- a program that is small enough: how much of everything. -/
theorem leftPg_cnt {p : TPg} {l : Int} (h : 0 ≤ leftPg p l) : p.decls.length ≤ l ∧ p.rules.length ≤ l ∧ (∀ d ∈ p.decls, d.kinds.length ≤ l) ∧ ∀ r ∈ p.rules, cntRu r ≤ l := by
  unfold leftPg at h
  split at h
  · omega
  · rename_i h0
    obtain ⟨h1, h2⟩ := leftDs_each p.decls l (by omega)
    obtain ⟨h3, h4⟩ := leftRs_each p.rules _ h
    exact ⟨by omega, by omega, h2, fun r hr => by have := h4 r hr; omega⟩
theorem cntB_mem : ∀ {l : List TLt} {x : TLt}, x ∈ l → cntLt x ≤ cntB l
  | y :: ys, x, h => by
    have e : cntB (y :: ys) = cntLt y + cntB ys := rfl
    rcases List.mem_cons.1 h with rfl | h
    · omega
    · have := cntB_mem h
      omega
end Go.Proofs.YtikohamfnnlhcaaGreatDoor
