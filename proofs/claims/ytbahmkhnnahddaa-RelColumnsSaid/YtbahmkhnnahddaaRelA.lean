/- What lies where: rows that a relation owns, blocks that may turn, and tuples in order. Conditions: none. -/
import Derived.Test.YtbahmkhnnahddaaTupR
namespace Go.Proofs.Ytbahmkhnnahddaa
open Go.RowKit Go.Deep

abbrev Bef3 (x y : V3) : Prop := Bef x.1 x.2.1 x.2.2 y.1 y.2.1 y.2.2
theorem cmp3_cases (x y : V3) : cmp3 x y = -1 ∧ Bef3 x y ∨ cmp3 x y = 1 ∧ Bef3 y x ∨ cmp3 x y = 0 ∧ x = y := by
  rcases cmpV_cases x.1 x.2.1 x.2.2 y.1 y.2.1 y.2.2 with h | h | ⟨h, e1, e2, e3⟩
  · exact .inl h
  · exact .inr (.inl h)
  · refine .inr (.inr ⟨h, ?_⟩)
    obtain ⟨a, b, c⟩ := x
    obtain ⟨d, e, f⟩ := y
    simp only at e1 e2 e3
    rw [e1, e2, e3]
/-- three ways for two tuples. -/
theorem tup_cases : ∀ a b : List V3, cmpT a b = -1 ∧ cmpT b a = 1 ∧ lessT a b = true ∧ lessT b a = false ∨ cmpT a b = 1 ∧ cmpT b a = -1 ∧ lessT a b = false ∧ lessT b a = true ∨ cmpT a b = 0 ∧ cmpT b a = 0 ∧ lessT a b = false ∧ lessT b a = false ∧ a = b
  | [], [] => .inr (.inr ⟨rfl, rfl, rfl, rfl, rfl⟩)
  | [], _ :: _ => .inl ⟨rfl, rfl, rfl, rfl⟩
  | _ :: _, [] => .inr (.inl ⟨rfl, rfl, rfl, rfl⟩)
  | x :: a, y :: b => by
    rcases cmp3_cases x y with ⟨h, hb⟩ | ⟨h, hb⟩ | ⟨h, rfl⟩
    · have h' : cmp3 y x = 1 := cmpV_of_aft hb
      have hne : x ≠ y := by rintro rfl; exact hb.irrefl
      refine .inl ⟨?_, ?_, ?_, ?_⟩
      · simp [cmpT, h]
      · simp [cmpT, h']
      · simp only [lessT, if_neg hne]; exact lessV_true hb
      · simp only [lessT, if_neg (Ne.symm hne)]; exact lessV_false (fun h => hb.asymm h)
    · have h' : cmp3 y x = -1 := cmpV_of_bef hb
      have hne : x ≠ y := by rintro rfl; exact hb.irrefl
      refine .inr (.inl ⟨?_, ?_, ?_, ?_⟩)
      · simp [cmpT, h]
      · simp [cmpT, h']
      · simp only [lessT, if_neg hne]; exact lessV_false (fun h => hb.asymm h)
      · simp only [lessT, if_neg (Ne.symm hne)]; exact lessV_true hb
    · have e1 : cmpT (x :: a) (x :: b) = cmpT a b := by simp [cmpT, h]
      have e2 : cmpT (x :: b) (x :: a) = cmpT b a := by simp [cmpT, h]
      have e3 : lessT (x :: a) (x :: b) = lessT a b := by simp [lessT]
      have e4 : lessT (x :: b) (x :: a) = lessT b a := by simp [lessT]
      rw [e1, e2, e3, e4]
      rcases tup_cases a b with h | h | ⟨h1, h2, h3, h4, h5⟩
      · exact .inl h
      · exact .inr (.inl h)
      · exact .inr (.inr ⟨h1, h2, h3, h4, by rw [h5]⟩)
theorem tup_trans : ∀ a b d : List V3, cmpT a b ≤ 0 → cmpT b d ≤ 0 → cmpT a d ≤ 0
  | [], _, [], _, _ => by decide
  | [], _, _ :: _, _, _ => by simp [cmpT]
  | _ :: _, [], _, h, _ => by simp [cmpT] at h
  | _ :: _, _ :: _, [], _, h => by simp [cmpT] at h
  | x :: a, y :: b, z :: d, h1, h2 => by
    rcases cmp3_cases x y with ⟨e1, b1⟩ | ⟨e1, b1⟩ | ⟨e1, rfl⟩
    · rcases cmp3_cases y z with ⟨e2, b2⟩ | ⟨e2, b2⟩ | ⟨e2, rfl⟩
      · have e3 : cmp3 x z = -1 := cmpV_of_bef (b1.trans b2)
        simp [cmpT, e3]
      · simp [cmpT, e2] at h2
      · simp [cmpT, e1]
    · simp [cmpT, e1] at h1
    · simp only [cmpT] at h2 ⊢
      have h1' : cmpT a b ≤ 0 := by simpa [cmpT, e1] using h1
      rcases cmp3_cases x z with ⟨e2, _⟩ | ⟨e2, _⟩ | ⟨e2, _⟩
      · simp [e2]
      · simp [e2] at h2
      · simp [e2] at h2 ⊢
        exact tup_trans a b d h1' h2
theorem cmpT_self (a : List V3) : cmpT a a = 0 := by
  rcases tup_cases a a with ⟨h, h2, _⟩ | ⟨h, h2, _⟩ | ⟨h, _⟩
  · omega
  · omega
  · exact h
theorem cmpT_eq {a b : List V3} (h : cmpT a b = 0) : a = b := by
  rcases tup_cases a b with ⟨h1, _⟩ | ⟨h1, _⟩ | ⟨_, _, _, _, h1⟩
  · omega
  · omega
  · exact h1
theorem cmpT_lt_trans {a b d : List V3} (h : cmpT a b < 0) (h' : cmpT b d < 0) : cmpT a d < 0 := by
  have h1 := tup_trans a b d (by omega) (by omega)
  rcases Int.lt_or_eq_of_le h1 with h2 | h2
  · exact h2
  · have := cmpT_eq h2
    subst this
    rcases tup_cases a b with ⟨_, h3, _⟩ | ⟨h3, _⟩ | ⟨h3, _⟩ <;> omega
theorem cmpT_gt {a b : List V3} (h : 0 < cmpT a b) : cmpT b a < 0 := by
  rcases tup_cases a b with ⟨h3, _⟩ | ⟨_, h3, _⟩ | ⟨h3, _⟩ <;> omega
theorem cmpT_lt {a b : List V3} (h : cmpT a b < 0) : 0 < cmpT b a := by
  rcases tup_cases a b with ⟨_, h3, _⟩ | ⟨h3, _⟩ | ⟨h3, _⟩ <;> omega
theorem lessT_iff (a b : List V3) : lessT a b = decide (cmpT a b < 0) := by
  rcases tup_cases a b with ⟨h, _, h3, _⟩ | ⟨h, _, h3, _⟩ | ⟨h, _, h3, _⟩ <;> simp [h, h3]

/-- tuples in order, each once. -/
abbrev Sor (L : List (List V3)) : Prop := L.Pairwise (fun x y => cmpT x y < 0)
/-- how many stand ahead of x. -/
def posT (L : List (List V3)) (x : List V3) : Nat := L.countP (fun y => decide (cmpT y x < 0))
theorem posT_le (L : List (List V3)) (x : List V3) : posT L x ≤ L.length := List.countP_le_length
/-- with x more. -/
def insT (L : List (List V3)) (x : List V3) : List (List V3) := L.take (posT L x) ++ x :: L.drop (posT L x)
theorem sor_ahead {L : List (List V3)} (hs : Sor L) (x : List V3) : (∀ y ∈ L.take (posT L x), cmpT y x < 0) ∧ (∀ y ∈ L.drop (posT L x), 0 ≤ cmpT y x) := by
  induction L with
  | nil => simp
  | cons a r ih =>
    obtain ⟨h1, h2⟩ := List.pairwise_cons.1 hs
    by_cases ha : cmpT a x < 0
    · have e : posT (a :: r) x = posT r x + 1 := by simp [posT, ha]
      rw [e]
      obtain ⟨i1, i2⟩ := ih h2
      simp only [List.take_succ_cons, List.drop_succ_cons, List.mem_cons]
      refine ⟨?_, i2⟩
      rintro y (rfl | hy)
      · exact ha
      · exact i1 y hy
    · have e : posT (a :: r) x = 0 := by
        unfold posT
        rw [List.countP_eq_zero]
        intro y hy
        simp only [decide_eq_true_eq]
        rcases List.mem_cons.1 hy with rfl | hy
        · exact ha
        · intro hyx
          exact ha (cmpT_lt_trans (h1 y hy) hyx)
      rw [e]
      refine ⟨by simp, ?_⟩
      intro y hy
      simp only [List.drop_zero] at hy
      rcases List.mem_cons.1 hy with rfl | hy
      · omega
      · have := h1 y hy
        by_cases hq : cmpT y x < 0
        · exact absurd (cmpT_lt_trans this hq) ha
        · omega
/-- where x stands, if it is there. -/
theorem sor_found {L : List (List V3)} (hs : Sor L) (x : List V3) : (posT L x < L.length ∧ L[posT L x]? = some x) ↔ x ∈ L := by
  constructor
  · rintro ⟨_, h⟩
    exact List.mem_of_getElem? h
  · intro hx
    obtain ⟨h1, h2⟩ := sor_ahead hs x
    have hd : x ∈ L.drop (posT L x) := by
      have := List.take_append_drop (posT L x) L
      rw [← this] at hx
      rcases List.mem_append.1 hx with h | h
      · have := h1 x h
        rw [cmpT_self] at this
        omega
      · exact h
    have hlt : posT L x < L.length := by
      rcases Nat.lt_or_ge (posT L x) L.length with h | h
      · exact h
      · rw [List.drop_eq_nil_of_le h] at hd
        simp at hd
    refine ⟨hlt, ?_⟩
    rw [List.drop_eq_getElem_cons hlt] at hd h2
    rw [List.getElem?_eq_getElem hlt]
    rcases List.mem_cons.1 hd with h | h
    · rw [← h]
    · have h3 : Sor (L.drop (posT L x)) := hs.sublist (List.drop_sublist _ _)
      rw [List.drop_eq_getElem_cons hlt] at h3
      have h4 := (List.pairwise_cons.1 h3).1 x h
      have h5 := h2 _ (List.mem_cons_self ..)
      omega
theorem insT_sor {L : List (List V3)} (hs : Sor L) {x : List V3} (hx : x ∉ L) : Sor (insT L x) := by
  obtain ⟨h1, h2⟩ := sor_ahead hs x
  refine List.pairwise_append.2 ?_
  refine ⟨hs.sublist (List.take_sublist _ _), ?_, ?_⟩
  · rw [List.pairwise_cons]
    refine ⟨fun y hy => ?_, hs.sublist (List.drop_sublist _ _)⟩
    have h3 := h2 y hy
    rcases Int.lt_or_eq_of_le h3 with h4 | h4
    · exact cmpT_gt h4
    · have := cmpT_eq h4.symm
      subst this
      exact absurd (List.mem_of_mem_drop hy) hx
  · intro y hy z hz
    rcases List.mem_cons.1 hz with rfl | hz
    · exact h1 y hy
    · rw [← List.take_append_drop (posT L x) L] at hs
      exact (List.pairwise_append.1 hs).2.2 y hy z hz
theorem insT_mem {L : List (List V3)} {x y : List V3} : y ∈ insT L x ↔ y = x ∨ y ∈ L := by
  unfold insT
  have h : y ∈ L ↔ y ∈ L.take (posT L x) ∨ y ∈ L.drop (posT L x) := by
    rw [← List.mem_append, List.take_append_drop]
  simp only [List.mem_append, List.mem_cons, h]
  constructor
  · rintro (h | h | h)
    · exact .inr (.inl h)
    · exact .inl h
    · exact .inr (.inr h)
  · rintro (h | h | h)
    · exact .inr (.inl h)
    · exact .inl h
    · exact .inr (.inr h)
theorem insT_len (L : List (List V3)) (x : List V3) : (insT L x).length = L.length + 1 := by
  have := posT_le L x
  simp [insT]
  omega
/-- in order, the same members: the same. -/
theorem sor_ext : ∀ {L M : List (List V3)}, Sor L → Sor M → (∀ x, x ∈ L ↔ x ∈ M) → L = M
  | [], [], _, _, _ => rfl
  | [], b :: M, _, _, h => absurd ((h b).2 (List.mem_cons_self ..)) (by simp)
  | a :: L, [], _, _, h => absurd ((h a).1 (List.mem_cons_self ..)) (by simp)
  | a :: L, b :: M, hl, hm, h => by
    obtain ⟨l1, l2⟩ := List.pairwise_cons.1 hl
    obtain ⟨m1, m2⟩ := List.pairwise_cons.1 hm
    have hab : a = b := by
      rcases List.mem_cons.1 ((h a).1 (List.mem_cons_self ..)) with e | e
      · exact e
      · rcases List.mem_cons.1 ((h b).2 (List.mem_cons_self ..)) with e' | e'
        · exact e'.symm
        · have := m1 a e
          have := cmpT_lt (l1 b e')
          omega
    subst hab
    rw [sor_ext l2 m2 fun x => ?_]
    have hx := h x
    simp only [List.mem_cons] at hx
    constructor
    · intro hxl
      rcases hx.1 (.inr hxl) with rfl | h1
      · have := l1 x hxl
        rw [cmpT_self] at this
        omega
      · exact h1
    · intro hxm
      rcases hx.2 (.inr hxm) with rfl | h1
      · have := m1 x hxm
        rw [cmpT_self] at this
        omega
      · exact h1

/-- all blocks but S lie as they lay. -/
structure Kept (S : List Nat) (w w' : World) : Prop where
  os : w'.os = w.os
  tape : w'.tape = w.tape
  output : w'.output = w.output
  size : w.heap.size ≤ w'.heap.size
  block : ∀ k, k < w.heap.size → k ∉ S → w'.heap[k]? = w.heap[k]?
/-- the blocks S' are among S, or new. -/
def Sub (S' S : List Nat) (n : Nat) : Prop := ∀ k ∈ S', k ∈ S ∨ n ≤ k
section
variable {S S' S'' : List Nat} {a b c w w' : World}
theorem Sub.refl (S : List Nat) (n : Nat) : Sub S S n := fun _ h => .inl h
theorem Sub.trans {n m : Nat} (h : Sub S' S n) (h' : Sub S'' S' m) (hn : n ≤ m) : Sub S'' S n := fun k hk => by
  rcases h' k hk with h1 | h1
  · exact h k h1
  · exact .inr (Nat.le_trans hn h1)
theorem Kept.refl (S : List Nat) (w : World) : Kept S w w := ⟨rfl, rfl, rfl, Nat.le_refl _, fun _ _ _ => rfl⟩
theorem Kept.of (S : List Nat) (h : Below w.heap.size w w') : Kept S w w' := ⟨h.os, h.tape, h.output, h.size, fun k hk _ => h.block k hk⟩
theorem Kept.trans (h : Kept S a b) (h' : Kept S' b c) (hs : Sub S' S a.heap.size) : Kept S a c :=
  ⟨h'.os.trans h.os, h'.tape.trans h.tape, h'.output.trans h.output, Nat.le_trans h.size h'.size, fun k hk hn =>
    (h'.block k (Nat.lt_of_lt_of_le hk h.size) (fun hk' => (hs k hk').elim hn (fun h1 => absurd h1 (by omega)))).trans (h.block k hk hn)⟩
theorem Kept.below (h : Kept S w w') {B : Nat} (hB : B ≤ w.heap.size) (hs : ∀ k ∈ S, B ≤ k) : Below B w w' :=
  ⟨h.os, h.tape, h.output, h.size, fun k hk => h.block k (by omega) (fun hk' => by have := hs k hk'; omega)⟩
theorem Kept.more (h : Kept S w w') (hs : ∀ k ∈ S, k ∈ S') : Kept S' w w' := ⟨h.os, h.tape, h.output, h.size, fun k hk hn => h.block k hk (fun h1 => hn (hs k h1))⟩
theorem Kept.cell (h : Kept S w w') {p : Addr} (hp : p.block < w.heap.size) (hn : p.block ∉ S) : w'.cell? p = w.cell? p := World.cell?_of_block (w := w) (h.block p.block hp hn)
theorem Kept.own (h : Kept S w w') {g : Nat} {e : TypeId} {xs : List Value} (ho : Own w g e xs) (hn : g ∉ S) : Own w' g e xs := (h.block g ho.lt hn).trans ho
theorem Kept.then (h : Kept S a w) (h' : Below w.heap.size w w') : Kept S a w' := h.trans (Kept.of [] h') (fun _ hk => by cases hk)
theorem Kept.alloc (h : Kept S a w) (o : Obj) : Kept S a (w.alloc o) := h.then ((Below.refl _ _).alloc (Nat.le_refl _) _)
theorem Kept.drew (h : Kept S a w) : Kept S a w.drew := h.then (Below.refl _ _).drew
theorem Kept.setCell (h : Kept S a w) {p : Addr} (hp : p.block ∈ S ∨ a.heap.size ≤ p.block) (u : Value) : Kept S a (w.setCell p u) :=
  h.trans (S' := [p.block]) ⟨rfl, rfl, rfl, by simp [World.setCell], fun k hk hn => Below.heap_setCell _ _ _ _ (by simpa using hn)⟩ (fun k hk => by simp only [List.mem_singleton] at hk; subst hk; exact hp)

/-- a row in a block that isn't among S. -/
def RowO (S : List Nat) (w : World) (A : Option Addr) (l : List V3) : Prop :=
  0 < l.length → ∃ b o, A = some ⟨b, o, none⟩ ∧ b < w.heap.size ∧ b ∉ S ∧ ∀ i x, l[i]? = some x → Cell3 w b (o + i * 3) x
theorem RowO.row {A : Option Addr} {l : List V3} (h : RowO S w A l) : Row w A l := fun h0 => by
  obtain ⟨b, o, h1, h2, _, h3⟩ := h h0
  exact ⟨b, o, h1, h2, h3⟩
theorem Row.off {A : Option Addr} {l : List V3} (h : Row w A l) (hs : ∀ k ∈ S, w.heap.size ≤ k) : RowO S w A l := fun h0 => by
  obtain ⟨b, o, h1, h2, h3⟩ := h h0
  exact ⟨b, o, h1, h2, fun hb => by have := hs b hb; omega, h3⟩
theorem RowO.kept {A : Option Addr} {l : List V3} (h : RowO S w A l) (hk : Kept S w w') (hs : Sub S' S w.heap.size) : RowO S' w' A l := fun h0 => by
  obtain ⟨b, o, h1, h2, hn, h3⟩ := h h0
  refine ⟨b, o, h1, Nat.lt_of_lt_of_le h2 hk.size, fun hb => ?_, fun i x hx => ?_⟩
  · rcases hs b hb with h4 | h4
    · exact hn h4
    · omega
  · obtain ⟨c1, c2, c3⟩ := h3 i x hx
    exact ⟨(hk.cell h2 hn).trans c1, (hk.cell h2 hn).trans c2, (hk.cell h2 hn).trans c3⟩
theorem RowO.below {A : Option Addr} {l : List V3} (h : RowO S w A l) (hb : Below w.heap.size w w') : RowO S w' A l := h.kept (Kept.of S hb) (Sub.refl _ _)

/-- a list of tuples in memory, apart from S. -/
def Lst (S : List Nat) (w : World) (A : Option Addr) (ts : List TV) : Prop :=
  (0 < ts.length → ∃ b o, A = some ⟨b, o, none⟩ ∧ b < w.heap.size ∧ b ∉ S ∧ ∀ (i : Nat) t, ts[i]? = some t → w.cell? ⟨b, o + i, none⟩ = some (tval t)) ∧ ∀ t ∈ ts, RowO S w t.1 t.2.2
theorem Lst.kept {A : Option Addr} {ts : List TV} (h : Lst S w A ts) (hk : Kept S w w') (hs : Sub S' S w.heap.size) : Lst S' w' A ts := by
  refine ⟨fun h0 => ?_, fun t ht => (h.2 t ht).kept hk hs⟩
  obtain ⟨b, o, h1, h2, hn, h3⟩ := h.1 h0
  refine ⟨b, o, h1, Nat.lt_of_lt_of_le h2 hk.size, fun hb => ?_, fun i x hx => (hk.cell h2 hn).trans (h3 i x hx)⟩
  rcases hs b hb with h4 | h4
  · exact hn h4
  · omega
theorem Lst.below {A : Option Addr} {ts : List TV} (h : Lst S w A ts) (hb : Below w.heap.size w w') : Lst S w' A ts := h.kept (Kept.of S hb) (Sub.refl _ _)
theorem Lst.off {A : Option Addr} {ts : List TV} (h : Lst S w A ts) (hs : ∀ k ∈ S', k ∈ S ∨ w.heap.size ≤ k) : Lst S' w A ts := h.kept (Kept.refl S w) hs
theorem Lst.nil (S : List Nat) (w : World) (A : Option Addr) : Lst S w A [] := ⟨fun h => absurd h (by simp), fun _ h => by cases h⟩
theorem Lst.at_ {A : Option Addr} {ts : List TV} (h : Lst S w A ts) {k : Nat} (hk : k < ts.length) :
    ∃ b o, A = some ⟨b, o, none⟩ ∧ b < w.heap.size ∧ b ∉ S ∧ w.cell? ⟨b, o + k, none⟩ = some (tval ts[k]) ∧ RowO S w ts[k].1 ts[k].2.2 := by
  obtain ⟨b, o, h1, h2, h3, h4⟩ := h.1 (by omega)
  exact ⟨b, o, h1, h2, h3, h4 k _ (List.getElem?_eq_getElem hk), h.2 _ (List.getElem_mem hk)⟩
theorem RowO.fewer {A : Option Addr} {l : List V3} (h : RowO S w A l) (hs : Sub S' S w.heap.size) : RowO S' w A l := h.kept (Kept.refl S w) hs

/-- a slice of tuples that is the relation's own: its block is G. -/
def Arr (w : World) (v : Value) (ts : List TV) (G : List Nat) : Prop :=
  (v = .slice none 0 0 ∧ ts = [] ∧ G = []) ∨ ∃ g sp, v = .slice (some ⟨g, 0, none⟩) ts.length (ts.length + sp.length) ∧ G = [g] ∧ Own w g 35 (ts.map tval ++ sp) ∧ ts.length + sp.length ≤ maxLen
/-- a relation: its record lies at b, a: its arity, ts: its tuples; S: the blocks that its own calls turn. -/
def RelAt (w : World) (b : Nat) (a : Int) (ts : List TV) (S : List Nat) : Prop :=
  ∃ v G, S = b :: G ∧ Own w b 77 [.int .i64 a, v] ∧ Arr w v ts G ∧ b ∉ G ∧ ∀ t ∈ ts, RowO S w t.1 t.2.2 ∧ (t.1 = none → t.2.1 = 0)
abbrev lists (ts : List TV) : List (List V3) := ts.map (·.2.2)
/-- what every relation keeps. -/
def Good (a : Int) (L : List (List V3)) : Prop := (∀ l ∈ L, rightT l = true ∧ (l.length : Int) = a) ∧ Sor L ∧ L.length ≤ 2000
theorem Arr.kept {v : Value} {ts : List TV} {G : List Nat} (h : Arr w v ts G) (hk : Kept S w w') (hn : ∀ g ∈ G, g ∉ S) : Arr w' v ts G := by
  rcases h with h | ⟨g, sp, h1, h2, h3, h4⟩
  · exact .inl h
  · exact .inr ⟨g, sp, h1, h2, hk.own h3 (hn g (by simp [h2])), h4⟩
theorem RelAt.sub {bk : Nat} {ar : Int} {ts : List TV} (h : RelAt w bk ar ts S) : ∀ k ∈ S, k < w.heap.size := by
  obtain ⟨v, G, rfl, ho, ha, _⟩ := h
  intro k hk
  rcases List.mem_cons.1 hk with rfl | hk
  · exact ho.lt
  · rcases ha with ⟨_, _, rfl⟩ | ⟨g, sp, _, rfl, h3, _⟩
    · cases hk
    · simp only [List.mem_singleton] at hk
      subst hk
      exact h3.lt
/-- a call that turns other blocks leaves a relation as it is. -/
theorem RelAt.kept {bk : Nat} {ar : Int} {ts : List TV} {T : List Nat} (h : RelAt w bk ar ts S) (hk : Kept T w w') (hn : ∀ g ∈ S, g ∉ T) (hr : ∀ t ∈ ts, RowO T w t.1 t.2.2) : RelAt w' bk ar ts S := by
  have hlt := h.sub
  obtain ⟨v, G, rfl, ho, ha, hb, ht⟩ := h
  refine ⟨v, G, rfl, hk.own ho (hn _ (by simp)), ha.kept hk (fun g hg => hn g (by simp [hg])), hb, fun t h1 => ⟨fun h0 => ?_, (ht t h1).2⟩⟩
  obtain ⟨b, o, e1, e2, e3, e4⟩ := (ht t h1).1 h0
  obtain ⟨b', o', f1, f2, f3, f4⟩ := hr t h1 h0
  rw [e1] at f1
  injection f1 with f1
  injection f1 with f1 _ _
  subst f1
  refine ⟨b, o, e1, Nat.lt_of_lt_of_le e2 hk.size, e3, fun i x hx => ?_⟩
  obtain ⟨c1, c2, c3⟩ := e4 i x hx
  exact ⟨(hk.cell e2 f3).trans c1, (hk.cell e2 f3).trans c2, (hk.cell e2 f3).trans c3⟩
theorem RowO.nil' {A : Option Addr} {l : List V3} (h : RowO S w A l) : RowO [] w A l := h.fewer (fun _ h => by cases h)
theorem RelAt.below {bk : Nat} {ar : Int} {ts : List TV} (h : RelAt w bk ar ts S) (hb : Below w.heap.size w w') : RelAt w' bk ar ts S := by
  have h' := h
  obtain ⟨v, G, _, _, _, _, ht⟩ := h'
  exact h.kept (T := []) (Kept.of [] hb) (fun _ _ h => by cases h) (fun t h1 => (ht t h1).1.nil')
theorem Arr.lst {v : Value} {ts : List TV} {G : List Nat} (h : Arr w v ts G) (T : List Nat) (hT : ∀ g ∈ G, g ∉ T) (hr : ∀ t ∈ ts, RowO T w t.1 t.2.2) : ∃ A c, v = .slice A ts.length c ∧ (A = none → c = 0) ∧ Lst T w A ts ∧ ts.length ≤ c := by
  rcases h with ⟨rfl, rfl, _⟩ | ⟨g, sp, rfl, rfl, h3, h4⟩
  · exact ⟨none, 0, rfl, fun _ => rfl, Lst.nil _ _ _, Nat.le_refl _⟩
  · refine ⟨_, _, rfl, (fun h => by cases h), ⟨fun _ => ⟨g, 0, rfl, h3.lt, hT g (by simp), fun i t ht => ?_⟩, hr⟩, Nat.le_add_right _ _⟩
    rw [Nat.zero_add, h3.cell]
    have hi : i < ts.length := (List.getElem?_eq_some_iff.1 ht).1
    rw [List.getElem?_append_left (by simpa using hi), List.getElem?_map, ht]
    rfl
end
end Go.Proofs.Ytbahmkhnnahddaa
