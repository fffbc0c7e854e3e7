/- rel.Project. Conditions: at most 60 tuples, at most 20 columns. -/
import Derived.Test.YtbahmkhnnahddaaRelCb
namespace Go.Proofs.Ytbahmkhnnahddaa
open Go.RowKit Go.Deep Go.Shelf

/-- the picked tuples, between two rounds. -/
def PjI (w : World) (ts : List TV) (cs : List Int) (k : Nat) (v : Value) (wr : World) : Prop :=
  ∃ ps : List TV, lists ps = (lists (ts.take k)).map (fun l => pickT l cs) ∧ ps.length = k ∧ (∀ t ∈ ps, t.1 = none → t.2.1 = 0) ∧ wr.ownsRow w.heap.size 35 1 v ps.length (ps.map tval) ∧ (∀ t ∈ ps, Row wr t.1 t.2.2 ∧ ∀ g, v.ownBlock = some g → RowO [g] wr t.1 t.2.2) ∧ Below w.heap.size w wr

set_option maxRecDepth 100000 in
theorem pj_step {w wr w5 : World} {ts : List TV} {cs : List Int} {k g5 : Nat} {v : Value} {pl : List V3} (hk : k < ts.length) (h60 : ts.length ≤ 60) (h : PjI w ts cs k v wr) (hb : Below wr.heap.size wr w5) (hg : wr.heap.size ≤ g5) (hr : Row w5 (some ⟨g5, 0, none⟩) pl) (hpl : pickT ts[k].2.2 cs = pl) :
    ∃ A2 c2 w6, (Builtin.append_ #[31, 31] 31 #[v, .slice (some ⟨w5.heap.size, 0, none⟩) 1 1]).run Try.prog (w5.alloc (.cells #[.slice (some ⟨g5, 0, none⟩) pl.length pl.length] 35)) = .ok (.slice A2 (k + 1) c2) w6 ∧ PjI w ts cs (k + 1) (.slice A2 (k + 1) c2) w6 := by
  obtain ⟨ps, h1, h2, h3, h4, h5, h6⟩ := h
  have hv : ∀ g, v.ownBlock = some g → w.heap.size ≤ g ∧ g < wr.heap.size := fun g hg => h4.lt g hg
  have hba : Below w5.heap.size w5 (w5.alloc (.cells #[.slice (some ⟨g5, 0, none⟩) pl.length pl.length] 35)) := (Below.refl _ _).alloc (Nat.le_refl _) _
  have hbw : Below wr.heap.size wr (w5.alloc (.cells #[.slice (some ⟨g5, 0, none⟩) pl.length pl.length] 35)) := hb.trans (hba.mono hb.size)
  have hO : Own (w5.alloc (.cells #[.slice (some ⟨g5, 0, none⟩) pl.length pl.length] 35)) w5.heap.size 35 [tval ((some ⟨g5, 0, none⟩, pl.length, pl) : TV)] := heap_alloc_new w5 _
  have hs5 := hb.size
  have hsa : (w5.alloc (.cells #[.slice (some ⟨g5, 0, none⟩) pl.length pl.length] 35)).heap.size = w5.heap.size + 1 := World.size_alloc w5 _
  have hsw := h6.size
  obtain ⟨v', w6, hrun, ho, hg6, hat⟩ := app_run (w5.alloc (.cells #[.slice (some ⟨g5, 0, none⟩) pl.length pl.length] 35)) w.heap.size v ps (owns_keep h4 (fun k _ hlt => hbw.block k hlt)) (some ⟨w5.heap.size, 0, none⟩) 1 [((some ⟨g5, 0, none⟩, pl.length, pl) : TV)] (fun h => by cases h) (lst_one' hO (hr.below hba)) (by simp; omega) (by omega)
  have hlen : (ps ++ [((some ⟨g5, 0, none⟩, pl.length, pl) : TV)]).length = k + 1 := by simp [h2]
  have ho' := ho
  rw [hlen] at ho'
  obtain ⟨g', c', rfl⟩ := owns_val ho'
  have hB6 : Below w.heap.size w w6 := (h6.trans (hbw.mono h6.size)).grown hg6 (by omega) (fun k hk => (hv k hk).1)
  have hrows : ∀ t ∈ ps ++ [((some ⟨g5, 0, none⟩, pl.length, pl) : TV)], ∀ g, v.ownBlock = some g → RowO [g] (w5.alloc (.cells #[.slice (some ⟨g5, 0, none⟩) pl.length pl.length] 35)) t.1 t.2.2 := fun t ht g hgv => by
    rcases List.mem_append.1 ht with ht | ht
    · exact ((h5 t ht).2 g hgv).below hbw
    · simp only [List.mem_singleton] at ht
      subst ht
      intro h0
      obtain ⟨b, o, e1, e2, e3⟩ := hr.below hba h0
      refine ⟨b, o, e1, e2, fun hm => ?_, e3⟩
      simp only [List.mem_singleton] at hm
      injection e1 with e1
      injection e1 with e1 _ _
      have := hv g hgv
      omega
  have hrowA : ∀ t ∈ ps ++ [((some ⟨g5, 0, none⟩, pl.length, pl) : TV)], Row (w5.alloc (.cells #[.slice (some ⟨g5, 0, none⟩) pl.length pl.length] 35)) t.1 t.2.2 := fun t ht => by
    rcases List.mem_append.1 ht with ht | ht
    · exact (h5 t ht).1.below hbw
    · simp only [List.mem_singleton] at ht
      subst ht
      exact hr.below hba
  have hrow6 : ∀ t ∈ ps ++ [((some ⟨g5, 0, none⟩, pl.length, pl) : TV)], Row w6 t.1 t.2.2 := fun t ht => by
    refine (hrowA t ht).grown hg6 (fun h0 g o e he => ?_)
    obtain ⟨b, o', e1, _, e3, _⟩ := hrows t ht g he.symm h0
    rw [e] at e1
    injection e1 with e1
    injection e1 with e1 _ _
    exact e3 (by simp [e1])
  refine ⟨_, c', w6, hrun, _, ?_, hlen, fun t ht => ?_, ho, fun t ht => ⟨hrow6 t ht, fun g hgv => ?_⟩, hB6⟩
  · rw [List.take_succ_eq_append_getElem hk]
    simp only [lists, List.map_append, List.map_cons, List.map_nil] at h1 ⊢
    rw [h1, hpl]
  · rcases List.mem_append.1 ht with ht | ht
    · exact h3 t ht
    · simp only [List.mem_singleton] at ht
      subst ht
      exact fun h => by cases h
  · intro h0
    obtain ⟨b, o, e1, e2, e3⟩ := hrow6 t ht h0
    refine ⟨b, o, e1, e2, fun hm => ?_, e3⟩
    simp only [List.mem_singleton] at hm
    subst hm
    rcases hat with h | h
    · rw [hgv] at h
      obtain ⟨b', o', f1, _, f3, _⟩ := hrows t ht b h.symm h0
      rw [e1] at f1
      injection f1 with f1
      injection f1 with f1 _ _
      exact f3 (by simp [f1])
    · rw [hgv, hsa] at h
      injection h with h
      obtain ⟨b', o', f1, f2, _⟩ := hrowA t ht h0
      rw [e1] at f1
      injection f1 with f1
      injection f1 with f1 _ _
      rw [hsa] at f2
      omega
theorem relErr_le {w wr : World} {a n : Int} {L : List (List V3)} {e : Ending} {w' : World} (hb : Below w.heap.size w wr) (h : RelErr wr a L n e w') : RelErr w a L n e w' := by
  rcases h with ⟨h0, b, he, ts, S, h1, h2, h3, h4⟩ | ⟨h0, he, h4⟩
  · exact .inl ⟨h0, b, he, ts, S, h1, h2, fun k hk => Nat.le_trans hb.size (h3 k hk), hb.trans (h4.mono hb.size)⟩
  · exact .inr ⟨h0, he, hb.trans (h4.mono hb.size)⟩
end Go.Proofs.Ytbahmkhnnahddaa
