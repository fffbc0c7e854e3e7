/- What a program's text is: the plain mathematics. Conditions: none. -/
import Derived.Test.YtikohamfnnlhcaaGreatDoorPcTermA
import Derived.Test.YtikohamfnnlhcaaGreatDoorScB
import Derived.Test.YtikohamfnnlhcaaGreatDoorPcTermI
set_option linter.unusedVariables false
set_option linter.unusedSimpArgs false
namespace Go.Proofs.YtikohamfnnlhcaaGreatDoor

/-- a term's text. -/
def txTm (t : TTm) : List UInt8 := if t.v.size = 0 then (textV t.k t.n t.s).data.toList else t.v.data.toList
def sgnX (op : Int) : List UInt8 := if op = 1 then [43] else if op = 2 then [45] else [42]
def sumB (op : Int) : Bool := decide (op = 1 ∨ op = 2)
def pL (op x : Int) : Bool := decide (op = 3) && sumB x
def pR (op y : Int) : Bool := sumB y || (decide (op = 3) && decide (y = 3))
def par (b : Bool) (s : List UInt8) : List UInt8 := if b then [40] ++ (s ++ [41]) else s
def joinX (op : Int) (a : List UInt8) (x : Int) (b : List UInt8) (y : Int) : List UInt8 := par (pL op x) a ++ ([32] ++ (sgnX op ++ ([32] ++ par (pR op y) b)))
mutual
/-- an expression's text. -/
def txE : TEx → List UInt8
  | .mk op t ks => if op = 0 then txTm t else match txEs ks with | [(a, x), (b, y)] => joinX op a x b y | _ => []
def txEs : List TEx → List (List UInt8 × Int)
  | [] => []
  | k :: ks => (txE k, k.op) :: txEs ks
end
def txAm (a : TAm) : List UInt8 := a.rel.data.toList ++ ([40] ++ (Lib.join (a.args.map txTm) [44, 32] ++ [41]))
def aggW (a : Int) : List UInt8 := if a = 1 then [99, 111, 117, 110, 116] else if a = 2 then [115, 117, 109] else if a = 3 then [109, 105, 110] else [109, 97, 120]
/-- a head's item, by its number. -/
def itX (agg col : Int) (i : Nat) (t : TTm) : List UInt8 := if 0 < agg ∧ (i : Int) = col then aggW agg ++ ([40] ++ (txTm t ++ [41])) else txTm t
def txHd (r : TRu) : List UInt8 := r.head.rel.data.toList ++ ([40] ++ (Lib.join (r.head.args.mapIdx (itX r.agg r.col)) [44, 32] ++ [41]))
def cmpW (op : Int) : List UInt8 := if op = 1 then [61] else if op = 2 then [33, 61] else if op = 3 then [60] else if op = 4 then [60, 61] else if op = 5 then [62] else [62, 61]
def txLt (l : TLt) : List UInt8 := if l.kind = 3 then txE l.left ++ ([32] ++ (cmpW l.op ++ ([32] ++ txE l.right))) else if l.kind = 2 then [110, 111, 116, 32] ++ txAm l.atom else txAm l.atom
def sepX (i : Nat) : List UInt8 := if i = 0 then [32, 58, 45, 32] else [44, 32]
def txBs : Nat → List TLt → List UInt8
  | _, [] => []
  | i, x :: xs => sepX i ++ (txLt x ++ txBs (i + 1) xs)
def txRu (r : TRu) : List UInt8 := txHd r ++ (txBs 0 r.body ++ [46])
def kindX (k : Int) : List UInt8 := if k = 1 then [105, 110, 116] else [115, 121, 109]
def txDe (d : TDe) : List UInt8 := [114, 101, 108, 32] ++ (d.rel.data.toList ++ ([40] ++ (Lib.join (d.kinds.map kindX) [44, 32] ++ [41, 46])))
/-- a program's lines, and its text. -/
def linesX (p : TPg) : List (List UInt8) := p.decls.map txDe ++ p.rules.map txRu
def linesT (ls : List (List UInt8)) : List UInt8 := ls.flatMap fun l => l ++ [10]
def txPg (p : TPg) : List UInt8 := linesT (linesX p)

theorem txE_leaf {e : TEx} (h : e.op = 0) : txE e = txTm e.t := by
  cases e with
  | mk op t ks => simp only [TEx.op] at h; subst h; rw [txE]; rfl
theorem txE_node {e a b : TEx} (h : ¬ e.op = 0) (hk : e.kids = [a, b]) : txE e = joinX e.op (txE a) a.op (txE b) b.op := by
  cases e with
  | mk op t ks =>
    simp only [TEx.op, TEx.kids] at h hk ⊢
    subst hk
    rw [txE, if_neg h, txEs, txEs, txEs]
    rfl
theorem txBs_append : ∀ (xs : List TLt) (i : Nat) (x : TLt), txBs i (xs ++ [x]) = txBs i xs ++ (sepX (i + xs.length) ++ txLt x)
  | [], i, x => by simp [txBs]
  | y :: xs, i, x => by
    rw [List.cons_append, txBs, txBs, txBs_append xs (i + 1) x, List.length_cons]
    simp only [List.append_assoc]
    rw [show i + 1 + xs.length = i + (xs.length + 1) by omega]
theorem txBs_snoc {l : List TLt} {k : Nat} (h : k < l.length) : txBs 0 (l.take (k + 1)) = txBs 0 (l.take k) ++ (sepX k ++ txLt l[k]) := by
  rw [List.take_succ_eq_append_getElem h, txBs_append, List.length_take, Nat.zero_add, Nat.min_eq_left (by omega)]
/-- how long the texts are at most. -/
theorem sole3 {s : ByteArray} (h : soleB 3 s = true) : s.size ≤ 32 ∧ s.size ≠ 0 := by
  have h1 : tokOf kindW s.data.toList = some (3, s.data.toList) := by simpa [soleB] using h
  have hs : s.data.toList.length = s.size := by simp
  unfold tokOf at h1
  split at h1
  · rw [Option.map_eq_some_iff] at h1
    obtain ⟨p, hp, h2⟩ := h1
    injection h2 with h2 _
    exact absurd h2 (by decide)
  · rename_i hn
    split at h1
    · cases h1
    · injection h1 with h1
      injection h1 with h1 h2
      rw [h2] at h1 hn
      have h3 : varB s.data.toList = true := by
        unfold kindW at h1
        split at h1
        · cases h1
        · split at h1
          · cases h1
          · split at h1
            · assumption
            · split at h1 <;> cases h1
      refine ⟨?_, fun h0 => hn (by rw [List.eq_nil_iff_length_eq_zero]; omega)⟩
      generalize s.data.toList = l at h3 hs
      cases l with
      | nil => simp only [List.length_nil] at hs; omega
      | cons c r =>
        have h4 : (upB c && decide ((((c :: r).length : Nat) : Int) ≤ 32)) = true := h3
        simp only [Bool.and_eq_true, decide_eq_true_eq] at h4
        omega
theorem name_len {s : ByteArray} (h : isName s.data.toList = true) : s.size ≤ 32 := by
  have hs : s.data.toList.length = s.size := by simp
  unfold isName at h
  simp only [Bool.and_eq_true, decide_eq_true_eq] at h
  omega
theorem sole2 {s : ByteArray} (h : soleB 2 s = true) : isName s.data.toList = true ∧ keyB s.data.toList = false := by
  have h1 : tokOf kindW s.data.toList = some (2, s.data.toList) := by simpa [soleB] using h
  unfold tokOf at h1
  split at h1
  · rw [Option.map_eq_some_iff] at h1
    obtain ⟨p, hp, h2⟩ := h1
    injection h2 with h2 _
    exact absurd h2 (by decide)
  · rename_i hn
    split at h1
    · cases h1
    · injection h1 with h1
      injection h1 with h1 h2
      rw [h2] at h1 hn
      unfold kindW at h1
      split at h1
      · cases h1
      · rename_i hk
        split at h1
        · exact ⟨by assumption, by simpa using hk⟩
        · split at h1
          · cases h1
          · split at h1 <;> cases h1
theorem sym_of {n : Int} {s : ByteArray} (h : isRight 2 n s = true) : n = 0 ∧ isName s.data.toList = true := by
  simpa [isRight] using h
theorem right_kind {k n : Int} {s : ByteArray} (h : isRight k n s = true) : k = 1 ∨ k = 2 := by
  unfold isRight at h
  by_cases h1 : k = 1
  · exact .inl h1
  · by_cases h2 : k = 2
    · exact .inr h2
    · rw [if_neg h1, if_neg h2] at h; cases h
theorem right_len {k n : Int} {s : ByteArray} (h : isRight k n s = true) : (textV k n s).size ≤ 32 := by
  rcases right_kind h with rfl | rfl
  · obtain ⟨h1, h2⟩ := right_one h
    subst h2
    rw [text_num h1]
    have := itoaB_size h1
    omega
  · obtain ⟨h1, h2⟩ := sym_of h
    subst h1
    rw [text_sym h2]
    exact name_len h2
theorem rightTm_len {t : TTm} (h : rightTm t = true) : (txTm t).length ≤ 32 := by
  unfold rightTm at h
  unfold txTm
  split at h
  · rename_i h0
    rw [if_pos h0]
    have := right_len h
    simpa using this
  · rename_i h0
    rw [if_neg h0]
    simp only [Bool.and_eq_true] at h
    have := (sole3 h.1).1
    simpa using this
def bE : Nat → Nat
  | 0 => 32
  | d + 1 => 2 * bE d + 7
theorem bE_lo : ∀ d, 32 ≤ bE d
  | 0 => Nat.le_refl _
  | d + 1 => by have := bE_lo d; unfold bE; omega
theorem bE_20 : bE 20 ≤ 41000000 := by decide
theorem par_len (b : Bool) (s : List UInt8) : (par b s).length ≤ s.length + 2 := by unfold par; split <;> simp
theorem sgn_len (op : Int) : (sgnX op).length = 1 := by unfold sgnX; split; rfl; split <;> rfl
theorem rightE_len : ∀ (d : Nat) (e : TEx), rightE d e = true → (txE e).length ≤ bE d
  | 0, e, h => by
    by_cases h0 : e.op = 0
    · rw [rightE_leaf 0 h0] at h
      simp only [Bool.and_eq_true] at h
      rw [txE_leaf h0]
      exact rightTm_len h.2
    · rw [rightE_deep h0] at h; cases h
  | d + 1, e, h => by
    by_cases h0 : e.op = 0
    · rw [rightE_leaf _ h0] at h
      simp only [Bool.and_eq_true] at h
      rw [txE_leaf h0]
      exact Nat.le_trans (rightTm_len h.2) (bE_lo _)
    · rw [rightE_node d h0] at h
      simp only [Bool.and_eq_true] at h
      obtain ⟨_, _, h⟩ := h
      split at h
      · rename_i a b hk
        simp only [Bool.and_eq_true] at h
        have ha := rightE_len d a h.1
        have hb := rightE_len d b h.2
        rw [txE_node h0 hk]
        unfold joinX
        have p1 := par_len (pL e.op a.op) (txE a)
        have p2 := par_len (pR e.op b.op) (txE b)
        have p3 := sgn_len e.op
        simp only [List.length_append, List.length_cons, List.length_nil, bE]
        omega
      · cases h
theorem join_le {b : Nat} : ∀ {L : List (List UInt8)}, (∀ t ∈ L, t.length ≤ b) → (Lib.join L [44, 32]).length ≤ L.length * (b + 2)
  | [], _ => by rw [Lib.join_nil]; simp
  | x :: r, h => by
    rw [Lib.join_length]
    have hl : Lib.lens (x :: r) ≤ (x :: r).length * b := by
      generalize x :: r = L at h ⊢
      induction L with
      | nil => simp [Lib.lens]
      | cons y l ih =>
        have h1 := ih fun t ht => h t (by simp [ht])
        have h2 := h y (by simp)
        simp only [Lib.lens, List.map_cons, List.sum_cons, List.length_cons] at h1 ⊢
        rw [Nat.succ_mul]
        omega
    simp only [List.length_cons, List.length_nil] at hl ⊢
    rw [Nat.mul_add]
    omega
theorem rightAm_parts {a : TAm} (h : rightAm a = true) : a.rel.size ≤ 32 ∧ a.args.length ≤ 6 ∧ ∀ t ∈ a.args, rightTm t = true := by
  unfold rightAm at h
  simp only [Bool.and_eq_true, decide_eq_true_eq, List.all_eq_true] at h
  exact ⟨name_len (sole2 h.1).1, h.2.1, h.2.2⟩
theorem rightAm_len {a : TAm} (h : rightAm a = true) : (txAm a).length ≤ 300 := by
  obtain ⟨h1, h2, h3⟩ := rightAm_parts h
  have hj := join_le (b := 32) (L := a.args.map txTm) (fun t ht => by
    obtain ⟨y, hy, rfl⟩ := List.mem_map.1 ht
    exact rightTm_len (h3 y hy))
  have hs : a.rel.data.toList.length = a.rel.size := by simp
  unfold txAm
  simp only [List.length_append, List.length_cons, List.length_nil, List.length_map] at hj ⊢
  have := Nat.mul_le_mul_right (32 + 2) h2
  omega
theorem cmp_len (op : Int) : (cmpW op).length ≤ 2 := by unfold cmpW; (repeat' split) <;> simp
theorem rightLt_cases {l : TLt} (h : rightLt l = true) : ((l.kind = 1 ∨ l.kind = 2) ∧ rightAm l.atom = true) ∨ (l.kind = 3 ∧ (1 ≤ l.op ∧ l.op ≤ 6) ∧ rightE 20 l.left = true ∧ rightE 20 l.right = true) := by
  unfold rightLt at h
  split at h
  · rename_i hk
    simp only [Bool.and_eq_true] at h
    exact .inl ⟨hk, h.1⟩
  · split at h
    · rename_i hk
      simp only [Bool.and_eq_true, decide_eq_true_eq] at h
      exact .inr ⟨hk, h.2.1, h.2.2.1, h.2.2.2⟩
    · cases h
theorem rightLt_len {l : TLt} (h : rightLt l = true) : (txLt l).length ≤ 90000000 := by
  rcases rightLt_cases h with ⟨hk, ha⟩ | ⟨hk, _, hl, hr⟩
  · have := rightAm_len ha
    unfold txLt
    rw [if_neg (by omega)]
    split
    · simp only [List.length_append, List.length_cons, List.length_nil]; omega
    · omega
  · have h1 := rightE_len 20 _ hl
    have h2 := rightE_len 20 _ hr
    have h3 := bE_20
    have h4 := cmp_len l.op
    unfold txLt
    rw [if_pos hk]
    simp only [List.length_append, List.length_cons, List.length_nil]
    omega
theorem sep_len (i : Nat) : (sepX i).length ≤ 4 := by unfold sepX; split <;> decide
theorem txBs_len : ∀ (l : List TLt) (i : Nat), (∀ x ∈ l, rightLt x = true) → (txBs i l).length ≤ l.length * 90000004
  | [], i, _ => by simp [txBs]
  | x :: xs, i, h => by
    have h1 := txBs_len xs (i + 1) fun y hy => h y (by simp [hy])
    have h2 := rightLt_len (h x (by simp))
    have h3 := sep_len i
    rw [txBs, List.length_append, List.length_append, List.length_cons, Nat.succ_mul]
    omega
theorem agg_len (a : Int) : (aggW a).length ≤ 5 := by unfold aggW; (repeat' split) <;> simp
theorem itX_len {agg col : Int} {i : Nat} {t : TTm} (h : rightTm t = true) : (itX agg col i t).length ≤ 39 := by
  have h1 := rightTm_len h
  have h2 := agg_len agg
  unfold itX
  split
  · simp only [List.length_append, List.length_cons, List.length_nil]; omega
  · omega
theorem rightRu_parts {r : TRu} (h : rightRu r = true) : rightAm r.head = true ∧ aggB r = true ∧ r.body.length ≤ 8 ∧ ∀ x ∈ r.body, rightLt x = true := by
  unfold rightRu at h
  simp only [Bool.and_eq_true, decide_eq_true_eq, List.all_eq_true] at h
  exact ⟨h.1, h.2.1, h.2.2.1, h.2.2.2⟩
theorem txHd_len {r : TRu} (h : rightAm r.head = true) : (txHd r).length ≤ 300 := by
  obtain ⟨h1, h2, h3⟩ := rightAm_parts h
  have hj := join_le (b := 39) (L := r.head.args.mapIdx (itX r.agg r.col)) (fun t ht => by
    obtain ⟨i, hi, rfl⟩ := List.mem_mapIdx.1 ht
    exact itX_len (h3 _ (List.getElem_mem hi)))
  have hs : r.head.rel.data.toList.length = r.head.rel.size := by simp
  unfold txHd
  simp only [List.length_append, List.length_cons, List.length_nil, List.length_mapIdx] at hj ⊢
  have := Nat.mul_le_mul_right (39 + 2) h2
  omega
theorem rightRu_len {r : TRu} (h : rightRu r = true) : (txRu r).length ≤ 720000400 := by
  obtain ⟨h1, _, h3, h4⟩ := rightRu_parts h
  have a1 := txHd_len h1
  have a2 := txBs_len r.body 0 h4
  have a3 := Nat.mul_le_mul_right 90000004 h3
  unfold txRu
  simp only [List.length_append, List.length_cons, List.length_nil]
  omega
theorem kindX_len (k : Int) : (kindX k).length ≤ 3 := by unfold kindX; split <;> decide
theorem rightDe_parts {d : TDe} (h : rightDe d = true) : d.rel.size ≤ 32 ∧ d.kinds.length ≤ 6 ∧ ∀ k ∈ d.kinds, k = 1 ∨ k = 2 := by
  unfold rightDe at h
  simp only [Bool.and_eq_true, decide_eq_true_eq, List.all_eq_true] at h
  exact ⟨name_len (sole2 h.1).1, h.2.1, fun k hk => by have := h.2.2 k hk; unfold kindB at this; simpa using this⟩
theorem rightDe_len {d : TDe} (h : rightDe d = true) : (txDe d).length ≤ 100 := by
  obtain ⟨h1, h2, _⟩ := rightDe_parts h
  have hj := join_le (b := 3) (L := d.kinds.map kindX) (fun t ht => by
    obtain ⟨y, hy, rfl⟩ := List.mem_map.1 ht
    exact kindX_len y)
  have hs : d.rel.data.toList.length = d.rel.size := by simp
  unfold txDe
  simp only [List.length_append, List.length_cons, List.length_nil, List.length_map] at hj ⊢
  have := Nat.mul_le_mul_right (3 + 2) h2
  omega
theorem formed_parts {p : TPg} (h : formedB p = true) : p.decls.length ≤ 32 ∧ (∀ d ∈ p.decls, rightDe d = true) ∧ p.rules.length ≤ 64 ∧ ∀ r ∈ p.rules, rightRu r = true := by
  unfold formedB at h
  simp only [Bool.and_eq_true, decide_eq_true_eq, List.all_eq_true] at h
  exact ⟨h.1.1, h.1.2, h.2.1, h.2.2⟩
theorem linesX_len {p : TPg} : (linesX p).length = p.decls.length + p.rules.length := by simp [linesX]
theorem linesX_each {p : TPg} (h : formedB p = true) : ∀ l ∈ linesX p, l.length ≤ 720000400 := by
  obtain ⟨_, h1, _, h2⟩ := formed_parts h
  intro l hl
  unfold linesX at hl
  rcases List.mem_append.1 hl with hl | hl
  · obtain ⟨d, hd, rfl⟩ := List.mem_map.1 hl
    have := rightDe_len (h1 d hd)
    omega
  · obtain ⟨r, hr, rfl⟩ := List.mem_map.1 hl
    exact rightRu_len (h2 r hr)
theorem linesT_len {b : Nat} : ∀ {ls : List (List UInt8)}, (∀ l ∈ ls, l.length ≤ b) → (linesT ls).length ≤ ls.length * (b + 1)
  | [], _ => by simp [linesT]
  | x :: r, h => by
    have h1 := linesT_len (ls := r) fun l hl => h l (by simp [hl])
    have h2 := h x (by simp)
    unfold linesT at h1 ⊢
    rw [List.flatMap_cons, List.length_append, List.length_append, List.length_cons, List.length_cons, List.length_nil, Nat.succ_mul]
    omega
theorem txPg_len {p : TPg} (h : formedB p = true) : (txPg p).length ≤ 70000000000 := by
  obtain ⟨h1, _, h2, _⟩ := formed_parts h
  have h3 := linesT_len (linesX_each h)
  have h4 : (linesX p).length ≤ 96 := by rw [linesX_len]; omega
  have h5 := Nat.mul_le_mul_right (720000400 + 1) h4
  unfold txPg
  omega
end Go.Proofs.YtikohamfnnlhcaaGreatDoor
