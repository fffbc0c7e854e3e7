/- The document's relations: Put. Conditions: at most 4000 tuples. -/
import Derived.Test.YtbahmkhnnahddaaRelRa
import Derived.Shelf.RegionOpenPlain
namespace Go.Proofs.Ytbahmkhnnahddaa
open Go.RowKit Go.Deep Go.Shelf

/-- a call that hands back a document's relation. -/
def RefPost (S : List Nat) (w : World) (a : Int) (L : List (List V3)) (e : Ending) (w' : World) : Prop :=
  ∃ m us, e = .returned m ∧ RefM S w' a m us ∧ lists us = L ∧ Below w.heap.size w w'
def putT (L : List (List V3)) (x : List V3) : List (List V3) := if fndT L x = true then L else insT L x
/-- a record of two cells, written anew. -/
theorem Own.two {w : World} {g : Nat} {e : TypeId} {x y u v : Value} (h : Own w g e [x, y]) : Own ((w.setCell ⟨g, 0, none⟩ u).setCell ⟨g, 1, none⟩ v) g e [u, v] := (h.set 0 u).set 1 v

/-- the argument's box and the result's. -/
abbrev refW (w : World) (a : Int) (A : Option Addr) (n c : Nat) : World := (w.alloc (.cells #[.int .i64 a, .slice A n c] 33)).alloc (.cells #[.int .i64 0, .slice none 0 0] 33)
theorem ref_start (w : World) (a : Int) (A : Option Addr) (n c : Nat) :
    Own (refW w a A n c) w.heap.size 33 [.int .i64 a, .slice A n c] ∧ Own (refW w a A n c) (w.heap.size + 1) 33 [.int .i64 0, .slice none 0 0] ∧ Below w.heap.size w (refW w a A n c) := by
  refine ⟨?_, ?_, ((Below.refl _ w).alloc (Nat.le_refl _) _).alloc (by simp) _⟩
  · have h1 : Own (w.alloc (.cells #[.int .i64 a, .slice A n c] 33)) w.heap.size 33 [.int .i64 a, .slice A n c] := heap_alloc_new w _
    exact h1.alloc _
  · have h1 := heap_alloc_new (w.alloc (.cells #[.int .i64 a, .slice A n c] 33)) (.cells #[.int .i64 0, .slice none 0 0] 33)
    rw [World.size_alloc] at h1
    exact h1
theorem RefM.nil' {S : List Nat} {w : World} {a : Int} {m : Value} {us : List TV} (h : RefM S w a m us) : RefM [] w a m us := h.kept (Kept.refl _ _) (fun _ h => by cases h)

set_option maxRecDepth 100000 in
set_option maxHeartbeats 1000000 in
theorem refPut_has (S : List Nat) (a : Int) (m : Value) (us : List TV) (x : TV) (w : World) (hm : RefM S w a m us) (hf : Fits us) (hn : us.length ≤ 4000) (hx : Row w x.1 x.2.2) (hxl : x.2.2.length ≤ maxLen) (hh : fndT (lists us) x.2.2 = true) :
    Calls Try.prog 46 #[m, tval x] w fun e w' => RefPost S w a (lists us) e w' := by
  have HM := Lib.hid hm
  obtain ⟨A, c, rfl, hA, hc, hl, _⟩ := hm
  obtain ⟨X, xc, xl⟩ := x
  obtain ⟨h2, h4, hb⟩ := ref_start w a A us.length c
  obtain ⟨w0, hw0⟩ : ∃ w0, w0 = refW w a A us.length c := ⟨_, rfl⟩
  rw [← hw0] at h2 h4 hb
  have hM0 : RefM [] w0 a (rv3 a A us.length c) us := (HM.out.below hb).nil'
  have HH := Lib.hid (refHas_any a _ us (X, xc, xl) w0 hM0 hf hn (hx.below hb) hxl)
  rw [hh] at HH
  have HB := Lib.hid hb
  have HW : Hid (w0 = (w.alloc (.cells #[.int .i64 a, .slice A us.length c] 33)).alloc (.cells #[.int .i64 0, .slice none 0 0] 33)) := hw0
  have H2 := Lib.hid h2
  have H4 := Lib.hid h4
  have h20 := h2.cell 0
  have h21 := h2.cell 1
  have q2 := h2.lt
  clear hl hx hf hxl hh hM0 hw0 hb h2 h4
  go_enter Try.func46, Try.ntmps46
  go_wp2_with fail
  rw [← HW.out]
  refine HH.out.mono ?_
  rintro e w1 ⟨rfl, b1⟩
  have H2 := Lib.hid (H2.out.below b1)
  have H4 := Lib.hid (H4.out.below b1)
  have B1 := Lib.hid (HB.out.trans (b1.mono HB.out.size))
  clear b1 h20 h21 q2
  have h20 := H2.out.cell 0
  have h21 := H2.out.cell 1
  have q2 := H2.out.lt
  have h40 := H4.out.cell 0
  have h41 := H4.out.cell 1
  have f40 := H4.out.frozen 0
  have f41 := H4.out.frozen 1
  have q4 := H4.out.lt
  go_wp2
  have hO := H4.out.two (u := .int .i64 a) (v := .slice A us.length c)
  have hbF := (B1.out.setCell (p := ⟨w.heap.size + 1, 0, none⟩) (by simp) (.int .i64 a)).setCell (p := ⟨w.heap.size + 1, 1, none⟩) (by simp) (.slice A us.length c)
  refine bodyPost_ret (v := rv3 a A us.length c) (by simp [results, Try.results46, go_sem, hO.cell 0, hO.cell 1]) rfl ⟨_, us, rfl, HM.out.below hbF, rfl, hbF⟩

theorem Lst.take {S : List Nat} {w : World} {A : Option Addr} {ts : List TV} (h : Lst S w A ts) (p : Nat) : Lst S w A (ts.take p) := by
  refine ⟨fun h0 => ?_, fun t ht => h.2 t (List.mem_of_mem_take ht)⟩
  obtain ⟨b, o, h1, h2, h3, h4⟩ := h.1 (by simp only [List.length_take] at h0; omega)
  refine ⟨b, o, h1, h2, h3, fun i t ht => h4 i t ?_⟩
  rw [List.getElem?_take] at ht
  split at ht
  · exact ht
  · cases ht
theorem Lst.drop {S : List Nat} {w : World} {g o : Nat} {ts : List TV} (h : Lst S w (some ⟨g, o, none⟩) ts) {p c : Nat} (hp : p ≤ ts.length) (hc : ts.length ≤ c) :
    ∃ A2 : Addr, (if c = p then (some ⟨g, o, none⟩ : Option Addr) else some ⟨g, o + p, none⟩) = some A2 ∧ Lst S w (some A2) (ts.drop p) := by
  by_cases hcp : c = p
  · refine ⟨⟨g, o, none⟩, by simp [hcp], fun h0 => ?_, fun t ht => h.2 t (List.mem_of_mem_drop ht)⟩
    simp only [List.length_drop] at h0
    omega
  · refine ⟨⟨g, o + p, none⟩, by simp [hcp], fun h0 => ?_, fun t ht => h.2 t (List.mem_of_mem_drop ht)⟩
    obtain ⟨b, o', h1, h2, h3, h4⟩ := h.1 (by simp only [List.length_drop] at h0; omega)
    injection h1 with h1
    injection h1 with h1 h5 _
    subst h1 h5
    refine ⟨g, o + p, rfl, h2, h3, fun i t ht => ?_⟩
    rw [List.getElem?_drop] at ht
    have := h4 (p + i) t ht
    rwa [← Nat.add_assoc] at this
theorem lst_one' {w : World} {g : Nat} {t : TV} (ho : Own w g 35 [tval t]) (hr : Row w t.1 t.2.2) : Lst [] w (some ⟨g, 0, none⟩) [t] := by
  refine ⟨fun _ => ⟨g, 0, rfl, ho.lt, List.not_mem_nil, fun i x hx => ?_⟩, fun x hx => ?_⟩
  · rw [Nat.zero_add, ho.cell]
    cases i with
    | zero =>
      simp only [List.getElem?_cons_zero, Option.some.injEq] at hx ⊢
      rw [hx]
    | succ i => simp at hx
  · simp only [List.mem_singleton] at hx
    subst hx
    exact hr.off (fun _ h => by cases h)
theorem Row.grown {w w' : World} {row : Option Nat} {A : Option Addr} {l : List V3} (h : Row w A l) (hg : w.grownBy w' row) (hne : 0 < l.length → ∀ g o, A = some ⟨g, o, none⟩ → some g ≠ row) : Row w' A l := fun h0 => by
  obtain ⟨b, o, h1, h2, h3⟩ := h h0
  refine ⟨b, o, h1, Nat.lt_of_lt_of_le h2 hg.size, fun i x hx => ?_⟩
  obtain ⟨c1, c2, c3⟩ := h3 i x hx
  exact ⟨hg.cell c1 (hne h0 b o h1), hg.cell c2 (hne h0 b o h1), hg.cell c3 (hne h0 b o h1)⟩

set_option maxRecDepth 100000 in
/-- Put's last steps: what stands ahead, the tuple in memory of its own, and the rest, one behind the other. -/
theorem put_tail (S : List Nat) (a : Int) (A A2 : Option Addr) (c c2 p : Nat) (us : List TV) (X : Option Addr) (xc : Nat) (xl : List V3) (w wz : World) (hS : ∀ k ∈ S, k < w.heap.size) (hpl : p ≤ us.length) (hn : us.length ≤ 4000) (hp : posT (lists us) xl = p)
    (hA0 : A = none → c = 0) (hA2 : A2 = none → c2 = 0) (hl : Lst S w A (us.take p)) (hl2 : Lst S w A2 (us.drop p)) (hun : ∀ t ∈ us, t.1 = none → t.2.1 = 0) (hXn : X = none → xc = 0) (hx : Row w X xl) (hxl : xl.length ≤ 100)
    (hBz : Below w.heap.size w wz) (H2 : Own wz w.heap.size 33 [.int .i64 a, .slice A us.length c]) (H4 : Own wz (w.heap.size + 1) 33 [.int .i64 0, .slice none 0 0]) :
    ∃ v1 wB A' c' wD v2 wF g3 cap3 wG,
      (Builtin.append_ #[31, 31] 31 #[.slice (some ⟨wz.heap.size, 0, none⟩) 0 0, .slice A p c]).run Try.prog (wz.alloc (.cells #[] 35)) = .ok v1 wB ∧
      (Builtin.append_ #[35, 35] 35 #[.slice (some ⟨wB.heap.size, 0, none⟩) 0 0, .slice X xl.length xc]).run Try.prog (wB.alloc (.cells #[] 48)) = .ok (.slice A' xl.length c') wD ∧
      (Builtin.append_ #[31, 31] 31 #[v1, .slice (some ⟨wD.heap.size, 0, none⟩) 1 1]).run Try.prog (wD.alloc (.cells #[.slice A' xl.length c'] 35)) = .ok v2 wF ∧
      (Builtin.append_ #[31, 31] 31 #[v2, .slice A2 (us.length - p) c2]).run Try.prog wF.drew = .ok (.slice (some ⟨g3, 0, none⟩) (us.length + 1) cap3) wG ∧
      Own wF w.heap.size 33 [.int .i64 a, .slice A us.length c] ∧ Own wG w.heap.size 33 [.int .i64 a, .slice A us.length c] ∧ Own wG (w.heap.size + 1) 33 [.int .i64 0, .slice none 0 0] ∧
      Hid (RefPost S w a (insT (lists us) xl) (.returned (rv3 a (some ⟨g3, 0, none⟩) (us.length + 1) cap3)) ((wG.setCell ⟨w.heap.size + 1, 0, none⟩ (.int .i64 a)).setCell ⟨w.heap.size + 1, 1, none⟩ (.slice (some ⟨g3, 0, none⟩) (us.length + 1) cap3))) := by
  have hsz := hBz.size
  have l4 := H4.lt
  have nil' : ∀ {A : Option Addr} {l : List TV}, Lst S w A l → Lst [] w A l := fun h => h.kept (Kept.refl _ _) (fun _ h => by cases h)
  have hmade := World.ownsRow_made (base := w.heap.size) (e := 35) (size := 1) wz #[] 0 hsz (by unfold maxLen; omega) rfl
  have hbA : Below wz.heap.size wz (wz.alloc (.cells #[] 35)) := (Below.refl _ _).alloc (Nat.le_refl _) _
  have hsA : (wz.alloc (.cells #[] 35)).heap.size = wz.heap.size + 1 := by simp
  have hzA : Below w.heap.size w (wz.alloc (.cells #[] 35)) := hBz.trans (hbA.mono hsz)
  obtain ⟨v1, wB, hr1, ho1, hg1, hat1⟩ := app_run (wz.alloc (.cells #[] 35)) w.heap.size (.slice (some ⟨wz.heap.size, 0, none⟩) 0 0) [] hmade A c (us.take p) hA0 ((nil' hl).below hzA) (by simp; omega) (by omega)
  have hln : (us.take p).length = p := by simp; omega
  rw [hln] at hr1
  rw [List.nil_append] at ho1
  have kB : Kept [wz.heap.size] wz wB := (((Kept.refl _ wz).alloc _).trans (Kept.grown hg1 (S := [wz.heap.size]) (fun k hk => by simp only [Value.ownBlock, Option.some.injEq] at hk; simp [hk])) (Sub.refl _ _))
  have hBB : Below wz.heap.size wz wB := kB.below (Nat.le_refl _) (fun k hk => by simp only [List.mem_singleton] at hk; omega)
  have hv1 : ∀ k, v1.ownBlock = some k → wz.heap.size ≤ k ∧ k < wB.heap.size := fun k hk => by
    refine ⟨?_, (ho1.lt k hk).2⟩
    rcases hat1 with h | h
    · rw [h] at hk
      simp only [Value.ownBlock, Option.some.injEq] at hk
      omega
    · rw [h, hsA] at hk
      injection hk with hk
      omega
  have hsB := hBB.size
  have hzB : Below w.heap.size w wB := hBz.trans (hBB.mono hsz)
  have hmade2 := World.ownsRow_made (base := wB.heap.size) (e := 48) (size := 3) wB #[] 0 (Nat.le_refl _) (by unfold maxLen; omega) rfl
  have hbC : Below wB.heap.size wB (wB.alloc (.cells #[] 48)) := (Below.refl _ _).alloc (Nat.le_refl _) _
  obtain ⟨A', c', wD, hr2, hn', hrow', hnew', kD⟩ := appT_run (wB.alloc (.cells #[] 48)) wB.heap.size wB.heap.size X xc xl hmade2 hXn ((hx.below hzB).below hbC) hxl (by simp)
  have kBD : Kept [wB.heap.size] wB wD := (Kept.of _ hbC).trans kD (Sub.refl _ _)
  have hBD : Below wB.heap.size wB wD := kBD.below (Nat.le_refl _) (fun k hk => by simp only [List.mem_singleton] at hk; omega)
  have hbE : Below wD.heap.size wD (wD.alloc (.cells #[.slice A' xl.length c'] 35)) := (Below.refl _ _).alloc (Nat.le_refl _) _
  have hOE : Own (wD.alloc (.cells #[.slice A' xl.length c'] 35)) wD.heap.size 35 [tval (A', c', xl)] := heap_alloc_new wD _
  have hsE : (wD.alloc (.cells #[.slice A' xl.length c'] 35)).heap.size = wD.heap.size + 1 := by simp
  have hsD := hBD.size
  have ho1E := owns_keep (owns_keep ho1 (fun k hk hlt => hBD.block k hlt)) (fun k hk hlt => hbE.block k hlt)
  have hrowE : Row (wD.alloc (.cells #[.slice A' xl.length c'] 35)) A' xl := hrow'.below hbE
  obtain ⟨v2, wF, hr3, ho3, hg3, hat3⟩ := app_run (wD.alloc (.cells #[.slice A' xl.length c'] 35)) w.heap.size v1 (us.take p) ho1E (some ⟨wD.heap.size, 0, none⟩) 1 [(A', c', xl)] (fun h => by cases h) (lst_one' hOE hrowE) (by simp; omega) (by omega)
  have e1 : [((A', c', xl) : TV)].length = 1 := rfl
  rw [e1] at hr3
  have hBF : Below wz.heap.size wz wF := (hBB.trans (hBD.mono hsB)).trans ((hbE.mono (by omega)).trans ((Below.refl _ _).grown hg3 (by omega) (fun k hk => (hv1 k hk).1)))
  have hv2 : ∀ k, v2.ownBlock = some k → wz.heap.size ≤ k ∧ (k < wB.heap.size ∨ k = wD.heap.size + 1) := fun k hk => by
    rcases hat3 with h | h
    · rw [h] at hk
      exact ⟨(hv1 k hk).1, .inl (hv1 k hk).2⟩
    · rw [h, hsE] at hk
      injection hk with hk
      exact ⟨by omega, .inr hk.symm⟩
  have hrF : ∀ g o, 0 < xl.length → A' = some ⟨g, o, none⟩ → wB.heap.size ≤ g ∧ g < wD.heap.size := fun g o h0 e => by
    obtain ⟨g', o', e', l', _⟩ := hrow' h0
    rw [e] at e'
    injection e' with e'
    injection e' with e' _ _
    exact ⟨hnew' g o e, by omega⟩
  have hdF : Below wF.heap.size wF wF.drew := (Below.refl _ _).drew
  have hsF := hBF.size
  have hzF : Below w.heap.size w wF.drew := (hBz.trans (hBF.mono hsz)).drew
  obtain ⟨v3, wG, hr4, ho4, hg4, hat4⟩ := app_run wF.drew w.heap.size v2 (us.take p ++ [(A', c', xl)]) (owns_keep ho3 (fun k hk hlt => rfl)) A2 c2 (us.drop p) hA2 ((nil' hl2).below hzF) (by simp; omega) (by show w.heap.size ≤ wF.heap.size; omega)
  have hlen2 : (us.drop p).length = us.length - p := by simp
  rw [hlen2] at hr4
  have hlen3 : (us.take p ++ [((A', c', xl) : TV)] ++ us.drop p).length = us.length + 1 := by simp; omega
  have ho4' := ho4
  rw [hlen3] at ho4'
  obtain ⟨g3, cap3, rfl⟩ := owns_val ho4'
  have hBG : Below wz.heap.size wz wG := (hBF.trans (hdF.mono hsF)).trans ((Below.refl _ _).grown hg4 (by show wz.heap.size ≤ wF.heap.size; omega) (fun k hk => (hv2 k hk).1))
  have hG4 := H4.below hBG
  refine ⟨v1, wB, A', c', wD, v2, wF, g3, cap3, wG, hr1, hr2, hr3, hr4, H2.below hBF, H2.below hBG, hG4, ?_⟩
  have hzG : Below w.heap.size w wG := hBz.trans (hBG.mono hsz)
  have hbF := (hzG.setCell (p := ⟨w.heap.size + 1, 0, none⟩) (by simp) (.int .i64 a)).setCell (p := ⟨w.heap.size + 1, 1, none⟩) (by simp) (.slice (some ⟨g3, 0, none⟩) (us.length + 1) cap3)
  have ks : Kept [w.heap.size + 1] wG ((wG.setCell ⟨w.heap.size + 1, 0, none⟩ (.int .i64 a)).setCell ⟨w.heap.size + 1, 1, none⟩ (.slice (some ⟨g3, 0, none⟩) (us.length + 1) cap3)) := ((Kept.refl _ _).setCell (.inl (by simp)) _).setCell (.inl (by simp)) _
  have hg3z : wz.heap.size ≤ g3 := by
    rcases hat4 with h | h
    · exact (hv2 g3 h.symm).1
    · injection h with h
      have : g3 = wF.heap.size := h
      omega
  have hcl : us.length + 1 ≤ cap3 := by
    rcases ho4'.2 with ⟨h, _⟩ | ⟨_, _, _, h, _, _, h2, _⟩
    · cases h
    · injection h with _ _ h
      omega
  have hnS : ∀ {k : Nat}, w.heap.size ≤ k → k ∉ S := fun hk hm => by have := hS _ hm; omega
  have hcells : g3 < wG.heap.size ∧ ∀ (i : Nat) t, (us.take p ++ [((A', c', xl) : TV)] ++ us.drop p)[i]? = some t → wG.cell? ⟨g3, 0 + i, none⟩ = some (tval t) := by
    rw [hlen3] at ho4
    obtain ⟨A9, c9, h9, _, h10⟩ := cells_of_owns ho4 (by rw [hlen3])
    injection h9 with h9 _ _
    obtain ⟨g, o, e, l, hc⟩ := h10 (by rw [hlen3]; omega)
    rw [← h9] at e
    injection e with e
    injection e with e1 e2 _
    subst e1 e2
    exact ⟨l, hc⟩
  have hrowG : Row wG A' xl := by
    have h1 : Row wF A' xl := hrowE.grown hg3 (fun h0 g o e h => by
      have := hrF g o h0 e
      have := hv1 g h.symm
      omega)
    have h2 : Row wF.drew A' xl := h1.below hdF
    exact h2.grown hg4 (fun h0 g o e h => by
      have := hrF g o h0 e
      have := hv2 g h.symm
      omega)
  refine ⟨_, us.take p ++ [((A', c', xl) : TV)] ++ us.drop p, rfl, ⟨some ⟨g3, 0, none⟩, cap3, by rw [hlen3], (fun h => by cases h), by rw [hlen3]; exact hcl, ⟨fun _ => ⟨g3, 0, rfl, Nat.lt_of_lt_of_le hcells.1 ks.size, hnS (by omega), fun i t ht => (ks.cell (p := ⟨g3, 0 + i, none⟩) hcells.1 (by simp; omega)).trans (hcells.2 i t ht)⟩, fun t ht => ?_⟩, fun t ht => ?_, .inr ⟨g3, 0, rfl⟩⟩, ?_, hbF⟩
  · rcases List.mem_append.1 ht with ht | ht
    · rcases List.mem_append.1 ht with ht | ht
      · exact (hl.2 t ht).below hbF
      · simp only [List.mem_singleton] at ht
        subst ht
        intro h0
        obtain ⟨g, o, e, l, hc⟩ := hrowG h0
        have h9 := hrF g o h0 e
        refine ⟨g, o, e, Nat.lt_of_lt_of_le l ks.size, hnS (by omega), fun i y hy => ?_⟩
        obtain ⟨c1, c2, c3⟩ := hc i y hy
        have hne : g ∉ [w.heap.size + 1] := by simp; omega
        exact ⟨(ks.cell l hne).trans c1, (ks.cell l hne).trans c2, (ks.cell l hne).trans c3⟩
    · exact (hl2.2 t ht).below hbF
  · rcases List.mem_append.1 ht with ht | ht
    · rcases List.mem_append.1 ht with ht | ht
      · exact hun t (List.mem_of_mem_take ht)
      · simp only [List.mem_singleton] at ht
        subst ht
        exact hn'
    · exact hun t (List.mem_of_mem_drop ht)
  · simp [insT, hp]

theorem pos_step {L : List (List V3)} (hs : Sor L) {x : List V3} {k : Nat} (hk : k < L.length) : (lessT L[k] x = true ↔ k < posT L x) := by
  rw [lessT_iff, decide_eq_true_eq]
  constructor
  · exact fun h => pos_above hs hk h
  · intro h
    obtain ⟨_, h2⟩ := below_pos hs h
    exact h2

set_option maxRecDepth 100000 in
set_option maxHeartbeats 2000000 in
theorem refPut_some (S : List Nat) (a : Int) (g o c : Nat) (us : List TV) (x : TV) (w : World) (hS : ∀ k ∈ S, k < w.heap.size) (hm : RefM S w a (rv3 a (some ⟨g, o, none⟩) us.length c) us) (hc : us.length ≤ c) (hl : Lst S w (some ⟨g, o, none⟩) us) (hun : ∀ t ∈ us, t.1 = none → t.2.1 = 0) (hso : Sor (lists us)) (hf : Fits us) (hn : us.length ≤ 4000) (hx : Row w x.1 x.2.2) (hxn : x.1 = none → x.2.1 = 0) (hxl : x.2.2.length ≤ 100) (hh : fndT (lists us) x.2.2 = false) :
    Calls Try.prog 46 #[rv3 a (some ⟨g, o, none⟩) us.length c, tval x] w fun e w' => RefPost S w a (insT (lists us) x.2.2) e w' := by
  obtain ⟨X, xc, xl⟩ := x
  simp only at hxn hxl hx hh
  have hxl' : xl.length ≤ maxLen := by unfold maxLen; omega
  obtain ⟨h2, h4, hb⟩ := ref_start w a (some ⟨g, o, none⟩) us.length c
  obtain ⟨w0, hw0⟩ : ∃ w0, w0 = refW w a (some ⟨g, o, none⟩) us.length c := ⟨_, rfl⟩
  rw [← hw0] at h2 h4 hb
  have HH := Lib.hid (refHas_any a _ us (X, xc, xl) w0 (hm.below hb).nil' hf hn (hx.below hb) hxl')
  rw [hh] at HH
  have HB := Lib.hid hb
  have HW : Hid (w0 = (w.alloc (.cells #[.int .i64 a, .slice (some ⟨g, o, none⟩) us.length c] 33)).alloc (.cells #[.int .i64 0, .slice none 0 0] 33)) := hw0
  have H2 := Lib.hid h2
  have H4 := Lib.hid h4
  have HX := Lib.hid hx
  have HL := Lib.hid hl
  have HF := Lib.hid hf
  have HSo := Lib.hid hso
  have HP := Lib.hid (posT_le (lists us) xl)
  have HUn := Lib.hid hun
  have HSS := Lib.hid hS
  have HXn := Lib.hid hxn
  have h20 := h2.cell 0
  have h21 := h2.cell 1
  have q2 := h2.lt
  clear hl hx hf hh hw0 hb h2 h4 hso hun hS hxn hm
  obtain ⟨p, hp⟩ : ∃ p, posT (lists us) xl = p := ⟨_, rfl⟩
  have HPP := Lib.hid hp
  have hpl : p ≤ us.length := by have := HP.out; rw [hp] at this; simpa using this
  clear hp HP
  have hpc : p ≤ c := by omega
  have hp0 : (0 : Int) ≤ (p : Int) := by omega
  have hpi : (p : Int) ≤ (us.length : Int) := by omega
  go_enter Try.func46, Try.ntmps46
  go_wp2_with fail
  rw [← HW.out]
  refine HH.out.mono ?_
  rintro e w1 ⟨rfl, b1⟩
  have H2 := Lib.hid (H2.out.below b1)
  have H4 := Lib.hid (H4.out.below b1)
  have B1 := Lib.hid (HB.out.trans (b1.mono HB.out.size))
  clear b1 h20 h21 q2 HB HH
  go_wp2_with fail
  go_loopw [5] (fun ix wr => ∃ k : Nat, k ≤ p ∧ ix = .int .i64 k ∧ Hid (Below w1.heap.size w1 wr)) (fun ix _ => p - (intOf ix).toNat)
  case atStart => exact ⟨0, Nat.zero_le _, rfl, Below.refl _ _⟩
  case round =>
    obtain ⟨k, hk, rfl, HBr⟩ := hrel
    have ho := H2.out.below HBr.out
    have h20 := ho.cell 0
    have h21 := ho.cell 1
    have q2 := ho.lt
    clear ho
    have BR := Lib.hid (B1.out.trans (HBr.out.mono B1.out.size))
    by_cases hlt : k < us.length
    · obtain ⟨g', o', e', hgw, _, hc1, hr⟩ := HL.out.at_ hlt
      injection e' with e'
      injection e' with e1 e2 _
      subst e1 e2
      have hfl := HF.out _ (List.getElem_mem hlt)
      have hlt' : k < (lists us).length := by simpa using hlt
      have HSt := Lib.hid (pos_step HSo.out hlt' (x := xl))
      have e1 : (lists us)[k] = us[k].2.2 := by simp
      rw [e1, HPP.out] at HSt
      clear e1
      generalize us[k] = t at hc1 hr hfl HSt
      obtain ⟨T, tc, tl⟩ := t
      have hc1 := (BR.out.cell (p := ⟨g, o + k, none⟩) hgw).trans hc1
      change wr.cell? ⟨g, o + k, none⟩ = some (.slice T tl.length tc) at hc1
      have qg : g < wr.heap.size := Nat.lt_of_lt_of_le hgw BR.out.size
      have HC := Lib.hid (LessT_any T X tc xc tl xl hfl hxl' wr (hr.row.below BR.out) (HX.out.below BR.out))
      simp only at HSt
      have hkn : (k : Int) < (us.length : Int) := by omega
      have hk0 : (0 : Int) ≤ (k : Int) := by omega
      clear hr hfl
      by_cases hkp : k < p
      · have hle := HSt.out.2 hkp
        rw [hle] at HC
        clear HSt hle
        go_wp2_with fail
        refine HC.out.mono ?_
        rintro e w2 ⟨rfl, b2⟩
        have B2 := Lib.hid (HBr.out.trans (b2.mono HBr.out.size))
        clear b2 hc1 h20 h21 HC
        go_wp2
        go_roundw
        case rel => exact ⟨k + 1, by omega, by go_num, B2.out⟩
        case measure => simp [intOf]; omega
      · have hle : lessT tl xl = false := by
          cases hq : lessT tl xl with
          | false => rfl
          | true => exact absurd (HSt.out.1 hq) hkp
        rw [hle] at HC
        obtain rfl : k = p := by omega
        clear HSt hle hkp
        go_wp2_with fail
        refine HC.out.mono ?_
        rintro e wz ⟨rfl, b2⟩
        have BZ := Lib.hid (BR.out.trans (b2.mono BR.out.size))
        have H2Z := Lib.hid ((H2.out.below HBr.out).below b2)
        have H4Z := Lib.hid ((H4.out.below HBr.out).below b2)
        clear b2 hc1 h20 h21 q2 HC BR HBr B1
        obtain ⟨A2, hA2, hl2⟩ := HL.out.drop hpl hc
        obtain ⟨v1, wB, A', c', wD, v2, wF, g3, cap3, wG, hr1, hr2, hr3, hr4, ho2, ho2G, ho4, HQ⟩ := put_tail S a (some ⟨g, o, none⟩) (some A2) c (c - k) k us X xc xl w wz HSS.out hpl hn HPP.out (fun h => by cases h) (fun h => by cases h) (HL.out.take k) hl2 HUn.out HXn.out HX.out hxl BZ.out H2Z.out H4Z.out
        have HR1 := Lib.hid hr1
        have HR2 := Lib.hid hr2
        have HR3 := Lib.hid hr3
        have HR4 := Lib.hid hr4
        have h20 := H2Z.out.cell 0
        have h21 := H2Z.out.cell 1
        have q2 := H2Z.out.lt
        have h20F := ho2.cell 0
        have h21F := ho2.cell 1
        have q2F := ho2.lt
        have h20G := ho2G.cell 0
        have h21G := ho2G.cell 1
        have q2G := ho2G.lt
        have h40G := ho4.cell 0
        have h41G := ho4.cell 1
        have f40G := ho4.frozen 0
        have f41G := ho4.frozen 1
        have q4G := ho4.lt
        have HO4 := Lib.hid ho4
        have mixed : Try.prog.follows .mixedOrders = true := by kernel_rfl
        clear hr1 hr2 hr3 hr4 hl2 ho2 ho2G ho4 hlt
        go_wp2_with (first
          | (at_builtin; refine Lib.wpList_append_run _ rfl _ _ _ _ rfl _ _ rfl rfl _ _ HR1.out ?_)
          | (at_builtin; refine Lib.wpList_append_run _ rfl _ _ _ _ rfl _ _ rfl rfl _ _ HR2.out ?_)
          | (at_builtin; refine Lib.wpList_append_run _ rfl _ _ _ _ rfl _ _ rfl rfl _ _ HR3.out ?_))
        go_region_law_o (refine step_append_runR rfl _ _ 31 31 rfl v2 (.slice (some A2) (us.length - k) (c - k)) (by simp [Act.eval, Act.put]) (by simp [Act.eval, Act.put]) HR4.out ?_)
        all_goals
          go_wp2
          have hO := HO4.out.two (u := .int .i64 a) (v := .slice (some ⟨g3, 0, none⟩) (us.length + 1) cap3)
          refine bodyPost_ret (v := rv3 a (some ⟨g3, 0, none⟩) (us.length + 1) cap3) (by simp [results, Try.results46, go_sem, hO.cell 0, hO.cell 1]) rfl HQ.out
    · obtain rfl : k = p := by omega
      have hkn : ¬ ((k : Int) < (us.length : Int)) := by omega
      obtain ⟨wz, rfl⟩ : ∃ wz : World, wz = wr := ⟨_, rfl⟩
      have BZ := BR
      have H2Z := Lib.hid (H2.out.below HBr.out)
      have H4Z := Lib.hid (H4.out.below HBr.out)
      clear h20 h21 q2 BR HBr B1
      obtain ⟨A2, hA2, hl2⟩ := HL.out.drop hpl hc
      obtain ⟨v1, wB, A', c', wD, v2, wF, g3, cap3, wG, hr1, hr2, hr3, hr4, ho2, ho2G, ho4, HQ⟩ := put_tail S a (some ⟨g, o, none⟩) (some A2) c (c - k) k us X xc xl w wz HSS.out hpl hn HPP.out (fun h => by cases h) (fun h => by cases h) (HL.out.take k) hl2 HUn.out HXn.out HX.out hxl BZ.out H2Z.out H4Z.out
      have HR1 := Lib.hid hr1
      have HR2 := Lib.hid hr2
      have HR3 := Lib.hid hr3
      have HR4 := Lib.hid hr4
      have h20 := H2Z.out.cell 0
      have h21 := H2Z.out.cell 1
      have q2 := H2Z.out.lt
      have h20F := ho2.cell 0
      have h21F := ho2.cell 1
      have q2F := ho2.lt
      have h20G := ho2G.cell 0
      have h21G := ho2G.cell 1
      have q2G := ho2G.lt
      have h40G := ho4.cell 0
      have h41G := ho4.cell 1
      have f40G := ho4.frozen 0
      have f41G := ho4.frozen 1
      have q4G := ho4.lt
      have HO4 := Lib.hid ho4
      have mixed : Try.prog.follows .mixedOrders = true := by kernel_rfl
      clear hr1 hr2 hr3 hr4 hl2 ho2 ho2G ho4 hlt
      go_wp2_with (first
        | (at_builtin; refine Lib.wpList_append_run _ rfl _ _ _ _ rfl _ _ rfl rfl _ _ HR1.out ?_)
        | (at_builtin; refine Lib.wpList_append_run _ rfl _ _ _ _ rfl _ _ rfl rfl _ _ HR2.out ?_)
        | (at_builtin; refine Lib.wpList_append_run _ rfl _ _ _ _ rfl _ _ rfl rfl _ _ HR3.out ?_))
      go_region_law_o (refine step_append_runR rfl _ _ 31 31 rfl v2 (.slice (some A2) (us.length - k) (c - k)) (by simp [Act.eval, Act.put]) (by simp [Act.eval, Act.put]) HR4.out ?_)
      all_goals
        go_wp2
        have hO := HO4.out.two (u := .int .i64 a) (v := .slice (some ⟨g3, 0, none⟩) (us.length + 1) cap3)
        refine bodyPost_ret (v := rv3 a (some ⟨g3, 0, none⟩) (us.length + 1) cap3) (by simp [results, Try.results46, go_sem, hO.cell 0, hO.cell 1]) rfl HQ.out
end Go.Proofs.Ytbahmkhnnahddaa
