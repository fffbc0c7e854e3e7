/- Add of a relation, where there is one more. Conditions: texts no longer than Go's longest, a tuple of at most 50 values. -/
import Derived.Test.YtbahmkhnnahddaaRelG
import Derived.Deep.RegionWith
namespace Go.Proofs.Ytbahmkhnnahddaa
open Go.RowKit Go.Deep Go.Shelf Go.Lib

/-- a call that hands back the tuple l in memory of its own. -/
def GotC (w : World) (l : List V3) (e : Ending) (w' : World) : Prop :=
  ∃ A' c', e = .returned (.slice A' l.length c') ∧ (A' = none → c' = 0) ∧ Row w' A' l ∧ (∀ g o, A' = some ⟨g, o, none⟩ → w.heap.size ≤ g) ∧ Below w.heap.size w w'

set_option maxRecDepth 100000 in
set_option maxHeartbeats 400000 in
theorem Copy_new (A : Option Addr) (c : Nat) (l : List V3) (hl : l.length ≤ 100) (hn : A = none → c = 0) (w : World) (hr : Row w A l) :
    Calls Try.prog 44 #[.slice A l.length c] w fun e w' => GotC w l e w' := by
  have HR := Lib.hid hr
  clear hr
  obtain ⟨i, hi, hz, hs, hb⟩ := info_parts infoVal
  cases A with
  | none =>
    have hl0 : l = [] := by
      cases l with
      | nil => rfl
      | cons x r => obtain ⟨b, o, h, _⟩ := HR.out (by simp); cases h
    subst hl0
    have hc := hn rfl
    subst hc
    go_enter Try.func44, Try.ntmps44
    go_wp2_with (at_builtin; refine wpList_append_own_none rfl _ _ 35 rfl w.heap.size 48 i 3 Try.underlying35 hi (.slice none 0 0) 0 [] rfl (World.ownsRow_nil _ _ _ _) rfl ?_)
    go_wp2
    go_ret
    exact ⟨none, 0, rfl, fun _ => rfl, Row.nil _ _, (fun _ _ h => by cases h), Below.refl _ _⟩
  | some a =>
    have hcells : ∀ j u, (flat l)[j]? = some u → w.cell? (a.add j) = some u := by
      intro j u hu
      have h0 : 0 < l.length := by
        rcases Nat.eq_zero_or_pos l.length with h | h
        · have : l = [] := List.eq_nil_of_length_eq_zero h
          subst this
          simp [flat] at hu
        · exact h
      obtain ⟨b, o, h, _, hc⟩ := HR.out h0
      injection h with h
      subst h
      exact flat_cells hc j u hu
    go_enter Try.func44, Try.ntmps44
    go_wp2_with (at_builtin; refine wpList_append_own _ rfl _ _ 35 rfl w.heap.size 48 i _ 3 32 Try.underlying35 hi hz hs hb rfl (by decide) (.slice none 0 0) 0 [] rfl (World.ownsRow_nil _ _ _ _) a l.length c (flat l) rfl (flat_len l) hcells (flat_one l) ?b1 ?b2 (Nat.le_refl _) ?_)
    case b1 => unfold maxLen; omega
    case b2 => omega
    intro v' w1 ho hg _
    clear hi hz hs hb
    obtain ⟨A', c', rfl, hn', hnew⟩ : ∃ A' c', v' = .slice A' l.length c' ∧ (A' = none → c' = 0) ∧ (∀ g o, A' = some ⟨g, o, none⟩ → w.heap.size ≤ g) := by
      rcases ho.2 with ⟨h, h0⟩ | ⟨g, cap, cur, h, hb, _⟩
      · exact ⟨none, 0, by rw [h]; congr 1; omega, (fun _ => rfl), (fun _ _ h => by cases h)⟩
      · refine ⟨_, cap, h, (fun h => by cases h), fun g' o' he => ?_⟩
        injection he with he
        injection he with he _ _
        omega
    obtain ⟨_, h1, h2⟩ := Row.own ho
    have HF := Lib.hid (show (A' = none → c' = 0) ∧ Row w1 A' l ∧ (∀ g o, A' = some ⟨g, o, none⟩ → w.heap.size ≤ g) ∧ Below w.heap.size w w1 from ⟨hn', h2, hnew, (Below.refl _ _).grown hg (Nat.le_refl _) (by simp [Value.ownBlock])⟩)
    clear hn' hnew
    clear ho hg h1 h2
    go_wp2
    go_ret
    exact ⟨A', c', rfl, HF.out⟩
theorem Arr.val {w : World} {v : Value} {ts : List TV} {G : List Nat} (h : Arr w v ts G) : ∃ A c, v = .slice A ts.length c := by
  rcases h with ⟨rfl, rfl, _⟩ | ⟨g, sp, rfl, _⟩
  · exact ⟨none, 0, rfl⟩
  · exact ⟨_, _, rfl⟩
theorem Arr.val3 {w : World} {v : Value} {ts : List TV} {G : List Nat} (h : Arr w v ts G) : ∃ A n c, v = .slice A n c := by
  obtain ⟨A, c, h⟩ := h.val
  exact ⟨A, _, c, h⟩
theorem map_ins {ts : List TV} {x : TV} {p : Nat} (hp : posT (lists ts) x.2.2 = p) : lists (ts.take p ++ x :: ts.drop p) = insT (lists ts) x.2.2 := by
  simp [insT, hp]

/-- a slice with one tuple more is stored into the record: the relation then. -/
theorem rel_stored {w w3 w4 : World} {b : Nat} {a : Int} {ts : List TV} {G G' : List Nat} {A A' : Option Addr} {c c' p : Nat} {xl : List V3} {v' : Value}
    (hR : RelAt w b a ts (b :: G)) (ho : Own w b 77 [.int .i64 a, .slice A ts.length c]) (hbG : b ∉ G) (hok : addB a (lists ts) xl = true) (hE : addE a (lists ts) xl = 0) (hp : posT (lists ts) xl = p) (xX : Option Addr × Nat)
    (b3 : Below w.heap.size w w3) (hn' : A' = none → c' = 0) (hr' : Row w3 A' xl) (hnew : ∀ g o, A' = some ⟨g, o, none⟩ → w.heap.size ≤ g)
    (ha4 : Arr w4 v' (ts.take p ++ ((A', c', xl) : TV) :: ts.drop p) G') (k4 : Kept G w3 w4) (s4 : Sub G' G w3.heap.size) :
    AddPost w b a ts (b :: G) (xX.1, xX.2, xl) (.returned (.tuple #[.bool true, .nilIface])) (w4.setCell ⟨b, 1, none⟩ v') := by
  have hsub := hR.sub
  have hbw : b < w.heap.size := hsub b (by simp)
  have k03 : Kept (b :: G) w w3 := Kept.of _ b3
  have k04 : Kept (b :: G) w w4 := k03.trans k4 (fun k hk => .inl (by simp [hk]))
  have k05 : Kept (b :: G) w (w4.setCell ⟨b, 1, none⟩ v') := k04.setCell (.inl (by simp)) _
  have s5 : Sub (b :: G') (b :: G) w.heap.size := by
    intro k hk
    rcases List.mem_cons.1 hk with rfl | hk
    · exact .inl (by simp)
    · rcases s4 k hk with h | h
      · exact .inl (by simp [h])
      · exact .inr (Nat.le_trans b3.size h)
  have hbG' : b ∉ G' := fun h => by
    rcases s4 b h with h | h
    · exact hbG h
    · have := b3.size
      omega
  have k5 : Kept [b] w4 (w4.setCell ⟨b, 1, none⟩ v') := (Kept.refl [b] w4).setCell (.inl (by simp)) _
  refine ⟨_, b :: G', ?_, ⟨v', G', rfl, ?_, ha4.kept k5 (fun g hg h => ?_), hbG', ?_⟩, ?_, k05, s5⟩
  · rw [hok, hE, err0]
  · have := (k4.own (((Kept.of [] b3).own ho (by simp))) hbG).set 1 v'
    exact this
  · simp only [List.mem_singleton] at h
    subst h
    exact hbG' hg
  · obtain ⟨_, _, hS, _, _, _, hrows⟩ := hR
    have hold : ∀ t ∈ ts, RowO (b :: G') (w4.setCell ⟨b, 1, none⟩ v') t.1 t.2.2 ∧ (t.1 = none → t.2.1 = 0) := fun t ht => ⟨((hrows t ht).1).kept k05 s5, (hrows t ht).2⟩
    intro t ht
    rcases List.mem_append.1 ht with ht | ht
    · exact hold t (List.mem_of_mem_take ht)
    · rcases List.mem_cons.1 ht with rfl | ht
      · refine ⟨fun h0 => ?_, hn'⟩
        obtain ⟨g, o, e, hlt, hc⟩ := hr' h0
        have hge := hnew g o e
        have hgb : g ∉ b :: G := fun h => by have := hsub g h; omega
        have k35 : Kept (b :: G) w3 (w4.setCell ⟨b, 1, none⟩ v') := (k4.more (fun k hk => by simp [hk])).setCell (.inl (by simp)) _
        refine ⟨g, o, e, Nat.lt_of_lt_of_le hlt k35.size, fun h => ?_, fun i y hy => ?_⟩
        · rcases List.mem_cons.1 h with rfl | h
          · exact hgb (by simp)
          · rcases s4 g h with h | h
            · exact hgb (by simp [h])
            · omega
        · obtain ⟨c1, c2, c3⟩ := hc i y hy
          exact ⟨(k35.cell hlt hgb).trans c1, (k35.cell hlt hgb).trans c2, (k35.cell hlt hgb).trans c3⟩
      · exact hold t (List.mem_of_mem_drop ht)
  · rw [map_ins (x := (A', c', xl)) hp]
    simp [addL, hok]

set_option maxRecDepth 100000 in
set_option maxHeartbeats 1000000 in
theorem Add_ins (b : Nat) (a : Int) (ts : List TV) (S : List Nat) (x : TV) (w : World) (h : RelAt w b a ts S) (hg : Good a (lists ts)) (hx : Row w x.1 x.2.2) (hxn : x.1 = none → x.2.1 = 0) (hf : Fit x.2.2) (hok : addB a (lists ts) x.2.2 = true) :
    Calls Try.prog 15 #[rp b, tval x] w fun e w' => AddPost w b a ts S x e w' := by
  obtain ⟨v, G, rfl, ho, ha, hbG, hrows⟩ := id h
  obtain ⟨A, c, rfl, hAc, hlst, hlc⟩ := ha.lst [] (fun _ _ h => by cases h) (fun t h1 => (hrows t h1).1.nil')
  obtain ⟨X, xc, xl⟩ := x
  simp only at hx hxn hf hok
  have HOK := Lib.hid hok
  simp only [addB, Bool.and_eq_true, decide_eq_true_eq, Bool.not_eq_true'] at hok
  obtain ⟨⟨⟨hlen, hrt⟩, hfn⟩, hfull⟩ := hok
  have h6 := right_six hrt
  have HR := Lib.hid h
  have HG := Lib.hid hg
  have HX := Lib.hid hx
  have HA := Lib.hid ha
  have HBG := Lib.hid hbG
  have HRows := Lib.hid hrows
  have h0 := ho.cell0
  have h1 := ho.cell1
  have q0 := ho.lt
  have HO := Lib.hid ho
  have HT := Lib.hid (TRight_any X xc xl (by unfold maxLen; omega) hf w hx)
  rw [hrt] at HT
  have hfull' : (ts.length : Int) < 2000 := by simp at hfull; omega
  have HE : Hid (addE a (lists ts) xl = 0) := by show _ = _; simp at hfull; simp [addE, hlen, hrt, hfn]; omega
  have HF := Lib.hid (fun W (hb : Below w.heap.size w W) => find_any b a ts (b :: G) (X, xc, xl) W (HR.out.below hb) HG.out (HX.out.below hb) (by unfold maxLen; simp only; omega))
  simp only [hfn] at HF
  have HCp := Lib.hid (fun W (hb : Below w.heap.size w W) => Copy_new X xc xl (by omega) hxn W (HX.out.below hb))
  subst hlen
  have HP := Lib.hid (posT_le (lists ts) xl)
  have HNil := Lib.hid (fun (g : Nat) (_ : g ∈ G) => (List.not_mem_nil : g ∉ []))
  have HTL := Lib.hid (show ts.length ≤ 2000 by omega)
  have HNG := Lib.hid (show ∀ n, w.heap.size ≤ n → n ∉ G from fun n hn hm => absurd (h.sub n (List.mem_cons_of_mem _ hm)) (by omega))
  clear h hg hx ho hf hrt hfn hfull ha hrows hlst
  obtain ⟨p, hp⟩ : ∃ p, posT (lists ts) xl = p := ⟨_, rfl⟩
  have HPP := Lib.hid hp
  rw [hp] at HP HF
  have HPL : Hid (p ≤ ts.length) := by
    have := HP.out
    simp only [List.length_map] at this
    exact this
  clear hp
  go_enter Try.func15, Try.ntmps15
  go_wp2_with fail
  refine HT.out.mono ?_
  rintro e w1 ⟨rfl, b1⟩
  have B1 := Lib.hid b1
  clear b1
  go_wp2_with fail
  refine (HF.out _ B1.out).mono ?_
  rintro e w2 ⟨rfl, b2⟩
  have B2 := Lib.hid (B1.out.trans (b2.mono B1.out.size))
  have h1 := (B2.out.cell (p := ⟨b, 1, none⟩) q0).trans h1
  have q2 : b < w2.heap.size := Nat.lt_of_lt_of_le q0 B2.out.size
  clear b2 h0
  go_wp2_with fail
  go_region_with (first
    | (go_at_call 44; refine (HCp.out _ ?_).mono ?_; exact B2.out.drew; rintro e w3 ⟨A', c', rfl, hn', hr', hnew, b3⟩; have HN := Lib.hid (show A' = none → c' = 0 from hn'); have HRW := Lib.hid hr'; have HNW := Lib.hid (show ∀ g o, A' = some ⟨g, o, none⟩ → w.heap.size ≤ g from fun g o h => Nat.le_trans B2.out.size (hnew g o h)); have h13 : w3.cell? ⟨b, 1, none⟩ = some (.slice A ts.length c) := (b3.cell (p := ⟨b, 1, none⟩) q2).trans h1; have q3 : b < w3.heap.size := Nat.lt_of_lt_of_le q2 b3.size; have B3 := Lib.hid (B2.out.drew.trans (b3.mono B2.out.size)); clear hn' hr' hnew b3)
    | (go_at_call 43; refine (Insert_any _ ts G p _ (A', c', xl) _ ?_ ?_ ?_ ?_ ?_).mono ?_; exact HA.out.kept ((Kept.of [] B3.out).alloc _) HNil.out; exact HPL.out; exact HTL.out; exact heap_alloc_new w3 _; exact HNG.out _ B3.out.size; rintro e w4 ⟨v', G', rfl, ha4, k4, s4⟩; obtain ⟨A4, n4, c4, rfl⟩ := ha4.val3; have HQ := Lib.hid (rel_stored HR.out HO.out HBG.out HOK.out HE.out HPP.out (X, xc) (B3.out.alloc B3.out.size _) HN.out (HRW.out.below ((Below.refl _ _).alloc (Nat.le_refl _) _)) HNW.out ha4 k4 s4); have O4 := k4.own (((Kept.of [] B3.out).alloc (.cells #[.slice A' xl.length c'] 35)).own HO.out List.not_mem_nil) HBG.out; have h14 := O4.cell1; have f14 := O4.frozen 1; have q4 := O4.lt; clear ha4 k4 s4 O4 h13 q3))
  all_goals
    go_wp2
    refine bodyPost_ret (v := .tuple #[.bool true, .nilIface]) (by simp [results, Try.results15, go_sem]) rfl ?_
    exact HQ.out
end Go.Proofs.Ytbahmkhnnahddaa
