/- RelPlays' steps: boxes apart, the script, a tuple of one's own. Conditions: texts within the form's reach. -/
import Derived.Test.YtdgjpikipkjhhaaRelHb
import Derived.Test.YtdgjpikipkjhhaaRelRk
import Derived.Test.YtdgjpikipkjhhaaRelDa
import Derived.Deep.RegionHeld3
namespace Go.Proofs.Ytdgjpikipkjhhaa
open Go.RowKit Go.Deep Go.Shelf

/-- a tuple's values don't lie in a box of two cells. -/
theorem two_apart {w : World} {g : Nat} {T : TypeId} {x y : Value} {A : Option Addr} {l : List V3} (h : Row w A l) (ho : Own w g T [x, y]) : RowO [g] w A l := fun h0 => by
  obtain ⟨b, o, h1, h2, h3⟩ := h h0
  refine ⟨b, o, h1, h2, fun hb => ?_, h3⟩
  simp only [List.mem_singleton] at hb
  subst hb
  obtain ⟨_, _, c3⟩ := h3 0 _ (List.getElem?_eq_getElem h0)
  have := ho.cell (o + 0 * 3 + 2)
  rw [c3] at this
  simp at this
theorem RelAt.box {w w' : World} {b g : Nat} {a : Int} {ts : List TV} {S : List Nat} {T : TypeId} {x y : Value} (h : RelAt w b a ts S) (ho : Own w g T [x, y]) (hg : g ∉ S) (hk : Kept [g] w w') : RelAt w' b a ts S :=
  h.kept hk (fun k hks hm => by simp only [List.mem_singleton] at hm; subst hm; exact hg hks) (fun t ht => two_apart ((h.rows t ht).row) ho)

/-- a script: tuples, each to be added or dropped. -/
abbrev AV := TV × Bool
def ActL (w : World) (A : Option Addr) (acts : List AV) : Prop :=
  (0 < acts.length → ∃ b o, A = some ⟨b, o, none⟩ ∧ b < w.heap.size ∧ ∀ (i : Nat) t, acts[i]? = some t → w.cell? ⟨b, o + i * 2, none⟩ = some (tval t.1) ∧ w.cell? ⟨b, o + i * 2 + 1, none⟩ = some (.bool t.2)) ∧
    (∀ t ∈ acts, Row w t.1.1 t.1.2.2 ∧ (t.1.1 = none → t.1.2.1 = 0) ∧ Inb t.1.2.2 ∧ t.1.2.2.length ≤ maxLen) ∧ acts.length ≤ maxLen
theorem ActL.at_ {w W : World} {A : Option Addr} {acts : List AV} (h : ActL w A acts) (hb : Below w.heap.size w W) {k : Nat} (hk : k < acts.length) :
    ∃ b o, A = some ⟨b, o, none⟩ ∧ b < W.heap.size ∧ W.cell? ⟨b, o + k * 2, none⟩ = some (tval acts[k].1) ∧ W.cell? ⟨b, o + k * 2 + 1, none⟩ = some (.bool acts[k].2) ∧
      Row W acts[k].1.1 acts[k].1.2.2 ∧ (acts[k].1.1 = none → acts[k].1.2.1 = 0) ∧ Inb acts[k].1.2.2 ∧ acts[k].1.2.2.length ≤ maxLen := by
  obtain ⟨b, o, h1, h2, h3⟩ := h.1 (by omega)
  obtain ⟨c1, c2⟩ := h3 k _ (List.getElem?_eq_getElem hk)
  obtain ⟨r1, r2, r3, r4⟩ := h.2.1 _ (List.getElem_mem hk)
  exact ⟨b, o, h1, Nat.lt_of_lt_of_le h2 hb.size, (hb.cell (p := ⟨b, o + k * 2, none⟩) h2).trans c1, (hb.cell (p := ⟨b, o + k * 2 + 1, none⟩) h2).trans c2, r1.below hb, r2, r3, r4⟩

/-- the play: the relation r at br (L its tuples), the document's m in the box bm (M its tuples), both apart from the blocks G. -/
def PlJ (G : List Nat) (w : World) (br bm : Nat) (a : Int) (L M : List (List V3)) (A : Option Addr) (nn c : Nat) (wr : World) : Prop :=
  ∃ ts S, RelAt wr br a ts S ∧ lists ts = L ∧ Good a L ∧ LOk M ∧ M.length ≤ 2000 ∧ (∀ j ∈ S, w.heap.size ≤ j) ∧ bm ∉ S ∧ (∀ g ∈ G, g ∉ S ∧ g ≠ bm) ∧ (∀ t ∈ ts, RowO G wr t.1 t.2.2) ∧ Own wr bm 33 [.int .i64 a, .slice A nn c] ∧ RefR (bm :: (G ++ S)) wr a (rv3 a A nn c) M ∧ Below w.heap.size w wr ∧ w.heap.size ≤ bm
section
variable {G : List Nat} {w W W' : World} {br bm : Nat} {a : Int} {L M : List (List V3)} {A : Option Addr} {nn c : Nat}
theorem PlJ.own (h : PlJ G w br bm a L M A nn c W) : Own W bm 33 [.int .i64 a, .slice A nn c] := by
  obtain ⟨_, _, _, _, _, _, _, _, _, _, _, h, _⟩ := h
  exact h
theorem PlJ.low (h : PlJ G w br bm a L M A nn c W) : Below w.heap.size w W := by
  obtain ⟨_, _, _, _, _, _, _, _, _, _, _, _, _, h, _⟩ := h
  exact h
theorem PlJ.bmw (h : PlJ G w br bm a L M A nn c W) : w.heap.size ≤ bm := by
  obtain ⟨_, _, _, _, _, _, _, _, _, _, _, _, _, _, h⟩ := h
  exact h
theorem PlJ.below (h : PlJ G w br bm a L M A nn c W) (hb : Below W.heap.size W W') : PlJ G w br bm a L M A nn c W' := by
  obtain ⟨ts, S, h1, h2, h3, h4, h5, h6, h7, h8, h9, h10, h11, h12, h13⟩ := h
  exact ⟨ts, S, h1.below hb, h2, h3, h4, h5, h6, h7, h8, fun t ht => (h9 t ht).below hb, h10.below hb, h11.below hb, h12.trans (hb.mono h12.size), h13⟩
/-- a block that is new is apart. -/
theorem PlJ.grow (h : PlJ G w br bm a L M A nn c W) (hb : Below W.heap.size W W') {g : Nat} (hg : W.heap.size ≤ g) : PlJ (g :: G) w br bm a L M A nn c W' := by
  have hlt := h.own.lt
  obtain ⟨ts, S, h1, h2, h3, h4, h5, h6, h7, h8, h9, h10, h11, h12, h13⟩ := h
  have hs := h1.sub
  have sub : Sub (g :: G) G W.heap.size := fun k hk => by
    rcases List.mem_cons.1 hk with rfl | hk
    · exact .inr hg
    · exact .inl hk
  refine ⟨ts, S, h1.below hb, h2, h3, h4, h5, h6, h7, fun k hk => ?_, fun t ht => (h9 t ht).kept (Kept.of G hb) sub, h10.below hb, h11.kept (Kept.of _ hb) (fun k hk => ?_), h12.trans (hb.mono h12.size), h13⟩
  · rcases List.mem_cons.1 hk with rfl | hk
    · exact ⟨fun hm => by have := hs _ hm; omega, by omega⟩
    · exact h8 k hk
  · simp only [List.cons_append, List.mem_cons] at hk ⊢
    rcases hk with rfl | rfl | hk
    · exact .inl (.inl rfl)
    · exact .inr hg
    · exact .inl (.inr hk)
/-- what turns the blocks G alone leaves both as they are. -/
theorem PlJ.loosen (h : PlJ G w br bm a L M A nn c W) (hk : Kept G W W') (hG : ∀ g ∈ G, w.heap.size ≤ g) : PlJ [] w br bm a L M A nn c W' := by
  obtain ⟨ts, S, h1, h2, h3, h4, h5, h6, h7, h8, h9, h10, h11, h12, h13⟩ := h
  exact ⟨ts, S, h1.kept hk (fun g hg hm => (h8 g hm).1 hg) h9, h2, h3, h4, h5, h6, h7, (fun g hg => by cases hg), fun t ht => (h9 t ht).kept hk (fun k hk => by cases hk), hk.own h10 (fun hm => (h8 _ hm).2 rfl), h11.kept (hk.more (fun k hk => by simp [hk])) (fun k hk => .inl (by simp at hk ⊢; rcases hk with rfl | hk; exact .inl rfl; exact .inr (.inr hk))), h12.trans (hk.below h12.size hG), h13⟩
theorem PlJ.fewer (h : PlJ G w br bm a L M A nn c W) : PlJ [] w br bm a L M A nn c W := by
  obtain ⟨ts, S, h1, h2, h3, h4, h5, h6, h7, h8, h9, h10, h11, h12, h13⟩ := h
  exact ⟨ts, S, h1, h2, h3, h4, h5, h6, h7, (fun g hg => by cases hg), fun t ht => (h9 t ht).fewer (fun k hk => by cases hk), h10, h11.kept (Kept.refl _ _) (fun k hk => .inl (by simp at hk ⊢; rcases hk with rfl | hk; exact .inl rfl; exact .inr (.inr hk))), h12, h13⟩
/-- a call of the document's that hands back a relation, which is stored in the box then. -/
theorem pl_ref {M' : List (List V3)} {f : FuncId} {args : Array Value} {E : Value → Ending} (h : PlJ G w br bm a L M A nn c W) (hG : ∀ g ∈ G, g < W.heap.size) (hM : LOk M') (hn : M'.length ≤ 2000)
    (hc : ∀ T, (∀ k ∈ T, k < W.heap.size) → RefR T W a (rv3 a A nn c) M → Calls Try.prog f args W fun e W3 => ∃ m, e = E m ∧ RefR T W3 a m M' ∧ Below W.heap.size W W3) :
    Calls Try.prog f args W fun e W3 => ∃ A' n' c', e = E (rv3 a A' n' c') ∧ Below W.heap.size W W3 ∧ ∀ W4, Kept [bm] W3 W4 → Own W4 bm 33 [.int .i64 a, .slice A' n' c'] → PlJ G w br bm a L M' A' n' c' W4 := by
  have hlt := h.own.lt
  obtain ⟨ts, S, h1, h2, h3, h4, h5, h6, h7, h8, h9, h10, h11, h12, h13⟩ := h
  have hs := h1.sub
  refine (hc (bm :: (G ++ S)) (fun k hk => ?_) h11).mono fun e W3 hp => ?_
  · simp only [List.mem_cons, List.mem_append] at hk
    rcases hk with rfl | hk | hk
    · exact hlt
    · exact hG k hk
    · exact hs k hk
  obtain ⟨m, rfl, hr, hb⟩ := hp
  obtain ⟨A', c', rfl⟩ := hr.form
  refine ⟨A', _, c', rfl, hb, fun W4 hk ho => ?_⟩
  have h1' := h1.below hb
  refine ⟨ts, S, h1'.box (h10.below hb) h7 hk, h2, h3, hM, hn, h6, h7, h8, fun t ht => ?_, ho, hr.kept (hk.more (fun k hk => by simp only [List.mem_singleton] at hk; simp [hk])) (Sub.refl _ _), (h12.trans (hb.mono h12.size)).trans (hk.below (by have := h12.size; have := hb.size; omega) (fun k hk => by simp only [List.mem_singleton] at hk; omega)), h13⟩
  have r1 := (h9 t ht).below hb
  have r2 := two_apart r1.row (h10.below hb)
  intro h0
  obtain ⟨b, o, e1, e2, e3, e4⟩ := r1 h0
  obtain ⟨b', o', f1, f2, f3, f4⟩ := r2 h0
  rw [e1] at f1
  injection f1 with f1
  injection f1 with f1 _ _
  subst f1
  exact ⟨b, o, e1, Nat.lt_of_lt_of_le e2 hk.size, e3, fun i y hy => by
    obtain ⟨c1, c2, c3⟩ := e4 i y hy
    exact ⟨(hk.cell e2 f3).trans c1, (hk.cell e2 f3).trans c2, (hk.cell e2 f3).trans c3⟩⟩
end

/-- r.Add in the play. -/
theorem pl_add {G : List Nat} {w W : World} {br bm : Nat} {a : Int} {L M : List (List V3)} {A : Option Addr} {nn c : Nat} (h : PlJ G w br bm a L M A nn c W) (hG : ∀ g ∈ G, g < W.heap.size) (x : TV) (hx : Row W x.1 x.2.2) (ht : Tok x) :
    Calls Try.prog 15 #[rp br, tval x] W fun e W' => e = .returned (.tuple #[.bool (addB a L x.2.2), errV (addE a L x.2.2)]) ∧ PlJ G w br bm a (addL a L x.2.2) M A nn c W' ∧ (∀ g ∈ G, W'.heap[g]? = W.heap[g]?) ∧ W.heap.size ≤ W'.heap.size := by
  have hlt := h.own.lt
  obtain ⟨ts, S, h1, rfl, h3, h4, h5, h6, h7, h8, h9, h10, h11, h12, h13⟩ := h
  refine (Add_any2 br a ts S x W h1 h3 hx ht).mono fun e W' hp => ?_
  obtain ⟨ts', S', rfl, p1, p2, p3, p4, p5⟩ := hp
  have nS : ∀ {g : Nat}, g < W.heap.size → g ∉ S → g ∉ S' := fun hg hn hm => by
    rcases p4 _ hm with h | h
    · exact hn h
    · omega
  have hrows := p1.rows
  refine ⟨rfl, ⟨ts', S', p1, p2, h3.add _, h4, h5, fun j hj => ?_, nS hlt h7, fun g hg => ⟨nS (hG g hg) (h8 g hg).1, (h8 g hg).2⟩, fun t ht => ?_, p3.own h10 h7, h11.kept (p3.more (fun k hk => by simp [hk])) (fun k hk => ?_), h12.trans (p3.below h12.size h6), h13⟩, fun g hg => p3.block g (hG g hg) (h8 g hg).1, p3.size⟩
  · rcases p4 j hj with h | h
    · exact h6 j h
    · exact Nat.le_trans h12.size h
  · rcases p5 t ht with h | h
    · intro h0
      obtain ⟨b, o, e1, e2, e3, e4⟩ := hrows t ht h0
      obtain ⟨b', o', f1, f2, f3, _⟩ := h9 t h h0
      rw [e1] at f1
      injection f1 with f1
      injection f1 with f1 _ _
      subst f1
      exact ⟨b, o, e1, e2, f3, e4⟩
    · intro h0
      obtain ⟨b, o, e1, e2, e3, e4⟩ := hrows t ht h0
      exact ⟨b, o, e1, e2, fun hm => by have := hG b hm; have := h b o e1; omega, e4⟩
  · simp only [List.mem_cons, List.mem_append] at hk ⊢
    rcases hk with rfl | hk | hk
    · exact .inl (.inl rfl)
    · exact .inl (.inr (.inl hk))
    · rcases p4 k hk with h | h
      · exact .inl (.inr (.inr h))
      · exact .inr h
/-- r.Drop in the play. -/
theorem pl_drop {G : List Nat} {w W : World} {br bm : Nat} {a : Int} {L M : List (List V3)} {A : Option Addr} {nn c : Nat} (h : PlJ G w br bm a L M A nn c W) (hG : ∀ g ∈ G, g < W.heap.size) (x : TV) (hx : Row W x.1 x.2.2) (hxl : x.2.2.length ≤ maxLen) :
    Calls Try.prog 12 #[rp br, tval x] W fun e W' => e = .returned (.bool (fndT L x.2.2)) ∧ PlJ [] w br bm a (delT L x.2.2) M A nn c W' ∧ (∀ g ∈ G, W'.heap[g]? = W.heap[g]?) ∧ W.heap.size ≤ W'.heap.size := by
  have hlt := h.own.lt
  obtain ⟨ts, S, h1, rfl, h3, h4, h5, h6, h7, h8, h9, h10, h11, h12, h13⟩ := h
  refine (Drop_any br a ts S x W h1 h3 hx hxl).mono fun e W' hp => ?_
  obtain ⟨ts', S', rfl, p1, p2, p3, p4⟩ := hp
  have nS : ∀ {g : Nat}, g < W.heap.size → g ∉ S → g ∉ S' := fun hg hn hm => by
    rcases p4 _ hm with h | h
    · exact hn h
    · omega
  refine ⟨rfl, ⟨ts', S', p1, p2, h3.del _, h4, h5, fun j hj => ?_, nS hlt h7, (fun g hg => by cases hg), fun t ht => (p1.rows t ht).fewer (fun k hk => by cases hk), p3.own h10 h7, h11.kept (p3.more (fun k hk => by simp [hk])) (fun k hk => ?_), h12.trans (p3.below h12.size h6), h13⟩, fun g hg => p3.block g (hG g hg) (h8 g hg).1, p3.size⟩
  · rcases p4 j hj with h | h
    · exact h6 j h
    · exact Nat.le_trans h12.size h
  · simp only [List.nil_append, List.mem_cons, List.mem_append] at hk ⊢
    rcases hk with rfl | hk
    · exact .inl (.inl rfl)
    · rcases p4 k hk with h | h
      · exact .inl (.inr (.inr h))
      · exact .inr h

theorem pl_has {G : List Nat} {w W : World} {br bm : Nat} {a : Int} {L M : List (List V3)} {A : Option Addr} {nn c : Nat} (h : PlJ G w br bm a L M A nn c W) (x : TV) (hx : Row W x.1 x.2.2) (hxl : x.2.2.length ≤ maxLen) :
    Calls Try.prog 13 #[rv3 a A nn c, tval x] W fun e W' => e = .returned (.bool (fndT M x.2.2)) ∧ Below W.heap.size W W' := by
  obtain ⟨ts, S, h1, h2, h3, h4, h5, h6, h7, h8, h9, h10, ⟨us, hm, rfl⟩, h12, h13⟩ := h
  exact refHas_any a _ us x W (hm.kept (Kept.refl _ _) (fun k h => by cases h)) h4.fits (by simp at h5; omega) hx hxl
theorem pl_rhas {G : List Nat} {w W : World} {br bm : Nat} {a : Int} {L M : List (List V3)} {A : Option Addr} {nn c : Nat} (h : PlJ G w br bm a L M A nn c W) (x : TV) (hx : Row W x.1 x.2.2) (hxl : x.2.2.length ≤ maxLen) :
    Calls Try.prog 18 #[rp br, tval x] W fun e W' => e = .returned (.bool (fndT L x.2.2)) ∧ Below W.heap.size W W' := by
  obtain ⟨ts, S, h1, rfl, h3, _⟩ := h
  exact Has_any br a ts S x W h1 h3 hx hxl
theorem pl_rdrop {G : List Nat} {w W : World} {br bm : Nat} {a : Int} {L M : List (List V3)} {A : Option Addr} {nn c : Nat} (h : PlJ G w br bm a L M A nn c W) (hG : ∀ g ∈ G, g < W.heap.size) (x : TV) (hx : Row W x.1 x.2.2) (hxl : x.2.2.length ≤ maxLen) :
    Calls Try.prog 14 #[rv3 a A nn c, tval x] W fun e W3 => ∃ A' n' c', e = .returned (rv3 a A' n' c') ∧ Below W.heap.size W W3 ∧ ∀ W4, Kept [bm] W3 W4 → Own W4 bm 33 [.int .i64 a, .slice A' n' c'] → PlJ G w br bm a L (delT M x.2.2) A' n' c' W4 := by
  have h' := h
  obtain ⟨_, _, _, _, _, h4, h5, _⟩ := h'
  exact pl_ref (E := fun m => .returned m) h hG ⟨h4.1.sublist List.filter_sublist, fun l hl => h4.2 l (List.mem_filter.1 hl).1⟩ (Nat.le_trans (List.length_filter_le _ _) h5) (fun T hT hm => refDrop_any T a _ M x W hT hm h4.2 (by omega) hx hxl)
theorem pl_radd {G : List Nat} {w W : World} {br bm : Nat} {a : Int} {L M : List (List V3)} {A : Option Addr} {nn c : Nat} (h : PlJ G w br bm a L M A nn c W) (hG : ∀ g ∈ G, g < W.heap.size) (h6 : a ≤ 6) (hgm : Good a M) (x : TV) (hx : Row W x.1 x.2.2) (ht : Tok x) :
    Calls Try.prog 16 #[rv3 a A nn c, tval x] W fun e W3 => ∃ A' n' c', e = .returned (.tuple #[rv3 a A' n' c', .bool (addB a M x.2.2), .int .i64 (addE a M x.2.2)]) ∧ Below W.heap.size W W3 ∧ ∀ W4, Kept [bm] W3 W4 → Own W4 bm 33 [.int .i64 a, .slice A' n' c'] → PlJ G w br bm a L (addL a M x.2.2) A' n' c' W4 := by
  have hga := hgm.add x.2.2
  exact pl_ref (E := fun m => .returned (.tuple #[m, .bool (addB a M x.2.2), .int .i64 (addE a M x.2.2)])) h hG (hga.lok h6) hga.2.2 (fun T hT hm => refAdd_any T a _ M x W hT hm (hgm.lok h6) hgm.2.2 hx ht.1 (by have := ht.2.1; omega) ht.2.2)

theorem pl_copy {G : List Nat} {w W : World} {br bm : Nat} {a : Int} {L M : List (List V3)} {A : Option Addr} {nn c : Nat} (h : PlJ G w br bm a L M A nn c W) :
    Calls Try.prog 19 #[rp br] W fun e W' => ∃ bc tc Sc, e = .returned (rp bc) ∧ RelAt W' bc a tc Sc ∧ Good a (lists tc) ∧ (∀ j ∈ Sc, W.heap.size ≤ j) ∧ Below W.heap.size W W' := by
  obtain ⟨ts, S, h1, rfl, h3, _⟩ := h
  refine (CopyR_any br a ts S W h1 h3).mono fun e W' hp => ?_
  obtain ⟨bc, tc, Sc, rfl, p1, p2, p3, _, p4⟩ := hp
  exact ⟨bc, tc, Sc, rfl, p1, by rw [p2]; exact h3, p3, p4⟩
theorem pl_is {G : List Nat} {w W : World} {br bm : Nat} {a : Int} {L : List (List V3)} {A : Option Addr} {nn c : Nat} (h : PlJ G w br bm a L L A nn c W) :
    Calls Try.prog 20 #[rp br, rv3 a A nn c] W fun e W' => e = .returned (.bool true) ∧ Below W.heap.size W W' := by
  obtain ⟨ts, S, h1, rfl, h3, _, _, _, _, _, _, _, h11, _⟩ := h
  exact IsR_any br a ts S _ _ _ W h1 h3 h11 rfl
/-- the copy, between two rounds of the last loop. -/
def CpI (W0 : World) (bc : Nat) (a : Int) (wr : World) : Prop := ∃ tc Sc, RelAt wr bc a tc Sc ∧ Good a (lists tc) ∧ (∀ j ∈ Sc, W0.heap.size ≤ j) ∧ Below W0.heap.size W0 wr
theorem cp_drop {W0 W : World} {bc : Nat} {a : Int} (h : CpI W0 bc a W) (x : TV) (hx : Row W x.1 x.2.2) (hxl : x.2.2.length ≤ maxLen) :
    Calls Try.prog 12 #[rp bc, tval x] W fun e W' => ∃ r, e = .returned (.bool r) ∧ CpI W0 bc a W' := by
  obtain ⟨tc, Sc, h1, h2, h3, h4⟩ := h
  refine (Drop_any bc a tc Sc x W h1 h2 hx hxl).mono fun e W' hp => ?_
  obtain ⟨ts', S', rfl, p1, p2, p3, p4⟩ := hp
  refine ⟨_, rfl, ts', S', p1, by rw [p2]; exact h2.del _, fun j hj => ?_, h4.trans (p3.below h4.size h3)⟩
  rcases p4 j hj with h | h
  · exact h3 j h
  · exact Nat.le_trans h4.size h
theorem CpI.below {W0 W W' : World} {bc : Nat} {a : Int} (h : CpI W0 bc a W) (hb : Below W.heap.size W W') : CpI W0 bc a W' := by
  obtain ⟨tc, Sc, h1, h2, h3, h4⟩ := h
  exact ⟨tc, Sc, h1.below hb, h2, h3, h4.trans (hb.mono h4.size)⟩
theorem CpI.low {W0 W : World} {bc : Nat} {a : Int} (h : CpI W0 bc a W) : Below W0.heap.size W0 W := by
  obtain ⟨_, _, _, _, _, h⟩ := h
  exact h

set_option maxRecDepth 100000 in
/-- a tuple in memory of its own, known whole. -/
theorem appO_run (w : World) (base g : Nat) (X : Option Addr) (xc : Nat) (xl : List V3) (hown : w.ownsRow base 48 3 (.slice (some ⟨g, 0, none⟩) 0 0) 0 []) (hX : X = none → xc = 0) (hr : Row w X xl) (hlen : xl.length ≤ 100) (hbase : base ≤ w.heap.size) :
    ∃ g' c' w', (Builtin.append_ #[35, 35] 35 #[.slice (some ⟨g, 0, none⟩) 0 0, .slice X xl.length xc]).run Try.prog w = .ok (.slice (some ⟨g', 0, none⟩) xl.length c') w' ∧ base ≤ g' ∧ g' < w'.heap.size ∧ w'.ownsRow base 48 3 (.slice (some ⟨g', 0, none⟩) xl.length c') xl.length (flat xl) ∧ Kept [g] w w' := by
  obtain ⟨i, hi, hz, hs, hb⟩ := info_parts infoVal
  have hgb : base ≤ g ∧ g < w.heap.size := by
    obtain ⟨_, ⟨h, _⟩ | ⟨g', _, _, h, h2, h3, _⟩⟩ := hown
    · cases h
    · injection h with h
      injection h with h
      injection h with h
      subst h
      exact ⟨h2, (Array.getElem?_eq_some_iff.1 h3).1⟩
  cases X with
  | none =>
    have hl0 : xl = [] := by
      cases xl with
      | nil => rfl
      | cons x r => obtain ⟨b, o, h, _⟩ := hr (by simp); cases h
    subst hl0
    obtain rfl := hX rfl
    exact ⟨g, 0, w, run_append_owned_none (P := Try.prog) (w := w) base 35 35 48 i 3 Try.underlying35 hi _ 0 _ hown, hgb.1, hgb.2, hown, Kept.refl _ _⟩
  | some a =>
    have hcells : ∀ j u, (flat xl)[j]? = some u → w.cell? (a.add j) = some u := by
      intro j u hu
      have h0 : 0 < xl.length := by
        rcases Nat.eq_zero_or_pos xl.length with h | h
        · have : xl = [] := List.eq_nil_of_length_eq_zero h
          subst this
          simp [flat] at hu
        · exact h
      obtain ⟨b, o, h, _, hc⟩ := hr h0
      injection h with h
      subst h
      exact flat_cells hc j u hu
    obtain ⟨v', w', h1, h2, h3, _, h5⟩ := run_append_own_at (P := Try.prog) w base 35 35 48 i _ 3 32 Try.underlying35 hi hz hs hb rfl (by decide) (.slice (some ⟨g, 0, none⟩) 0 0) 0 [] hown a xl.length xc (flat xl) (flat_len xl) hcells (flat_one xl) (by unfold maxLen; omega) (by omega) hbase
    rw [Nat.zero_add, List.nil_append] at h2
    have h2' := h2
    obtain ⟨_, ⟨hv, _⟩ | ⟨g', cap, cur, hv, hb', hc', _⟩⟩ := h2'
    · rcases h5 with h5 | h5
      · rw [hv] at h5; cases h5
      · rw [hv] at h5; cases h5
    · subst hv
      exact ⟨g', cap, w', h1, hb', (Array.getElem?_eq_some_iff.1 hc').1, h2, Kept.grown h3 (fun k hk => by
        simp only [Value.ownBlock, Option.some.injEq] at hk
        simp [hk])⟩

/-- the numbers of a tuple of one's own may be turned. -/
def OwnN (g n : Nat) (w : World) : Prop := ∃ xs, Own w g 48 xs ∧ ∀ i, i < n → ∃ z, xs[i * 3 + 1]? = some (.int .i64 z)
theorem OwnN.keep {g n : Nat} {w w' : World} (h : OwnN g n w) (hk : w'.heap[g]? = w.heap[g]?) : OwnN g n w' := by
  obtain ⟨xs, h1, h2⟩ := h
  exact ⟨xs, hk.trans h1, h2⟩
theorem OwnN.at_ {g n j : Nat} {w : World} (h : OwnN g n w) (hj : j < n) : ∃ z, w.cell? ⟨g, j * 3 + 1, none⟩ = some (.int .i64 z) ∧ w.frozen? ⟨g, j * 3 + 1, none⟩ = false ∧ g < w.heap.size ∧ ∀ z', OwnN g n (w.setCell ⟨g, j * 3 + 1, none⟩ (.int .i64 z')) := by
  obtain ⟨xs, h1, h2⟩ := h
  obtain ⟨z, hz⟩ := h2 j hj
  refine ⟨z, (h1.cell _).trans hz, h1.frozen _, h1.lt, fun z' => ⟨xs.set (j * 3 + 1) (.int .i64 z'), h1.set _ _, fun i hi => ?_⟩⟩
  by_cases he : i = j
  · subst he
    have hl : i * 3 + 1 < xs.length := (List.getElem?_eq_some_iff.1 hz).1
    exact ⟨z', by simp [hl]⟩
  · obtain ⟨z2, hz2⟩ := h2 i hi
    exact ⟨z2, by rw [List.getElem?_set_ne (by omega)]; exact hz2⟩
theorem OwnN.of {w : World} {base g c : Nat} {xl : List V3} (h : w.ownsRow base 48 3 (.slice (some ⟨g, 0, none⟩) xl.length c) xl.length (flat xl)) : OwnN g xl.length w ∧ Row w (some ⟨g, 0, none⟩) xl := by
  have hrow := (Row.own h).2.2
  refine ⟨?_, hrow⟩
  obtain ⟨_, ⟨h1, _⟩ | ⟨g', cap, cur, h1, _, h2, _⟩⟩ := h
  · cases h1
  · injection h1 with h1
    injection h1 with h1
    injection h1 with h1 _ _
    subst h1
    have ho : Own w g 48 cur.toList := by
      unfold Own
      rw [h2]
    refine ⟨cur.toList, ho, fun i hi => ?_⟩
    obtain ⟨b, o, e, _, hc⟩ := hrow (by omega)
    injection e with e
    injection e with e1 e2 _
    subst e1 e2
    obtain ⟨_, c2, _⟩ := hc i _ (List.getElem?_eq_getElem hi)
    rw [Nat.zero_add] at c2
    exact ⟨_, (ho.cell _).symm.trans c2⟩
end Go.Proofs.Ytdgjpikipkjhhaa
