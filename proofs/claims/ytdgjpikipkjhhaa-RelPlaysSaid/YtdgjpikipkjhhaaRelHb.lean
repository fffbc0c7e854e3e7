/- Add, once more: a tuple that is new in the relation lies in new memory. Conditions: at most 2000 tuples. -/
import Derived.Test.YtdgjpikipkjhhaaRelU
import Derived.Test.YtdgjpikipkjhhaaRelI
namespace Go.Proofs.Ytdgjpikipkjhhaa
open Go.RowKit Go.Deep Go.Shelf Go.Lib

def AddPost2 (w : World) (b : Nat) (a : Int) (ts : List TV) (S : List Nat) (x : TV) (e : Ending) (w' : World) : Prop :=
  ∃ ts' S', e = .returned (.tuple #[.bool (addB a (lists ts) x.2.2), errV (addE a (lists ts) x.2.2)]) ∧ RelAt w' b a ts' S' ∧ lists ts' = addL a (lists ts) x.2.2 ∧ Kept S w w' ∧ Sub S' S w.heap.size ∧ ∀ t ∈ ts', t ∈ ts ∨ NewT w t
theorem AddPost2.same {w w' : World} {b : Nat} {a : Int} {ts : List TV} {S : List Nat} {x : TV} {n : Int} (h : RelAt w b a ts S) (hb : Below w.heap.size w w') (h1 : addB a (lists ts) x.2.2 = false) (h2 : addE a (lists ts) x.2.2 = n) :
    AddPost2 w b a ts S x (.returned (.tuple #[.bool false, errV n])) w' :=
  ⟨ts, S, by rw [h1, h2], h.below hb, by simp [addL, h1], Kept.of S hb, Sub.refl _ _, fun _ h => .inl h⟩

set_option maxRecDepth 100000 in
set_option maxHeartbeats 400000 in
theorem Add_out2 (b : Nat) (a : Int) (ts : List TV) (S : List Nat) (x : TV) (w : World) (h : RelAt w b a ts S) (hg : Good a (lists ts)) (hx : Row w x.1 x.2.2) (hxl : x.2.2.length ≤ 50) (hf : Fit x.2.2) (hbad : addB a (lists ts) x.2.2 = false) :
    Calls Try.prog 15 #[rp b, tval x] w fun e w' => AddPost2 w b a ts S x e w' := by
  obtain ⟨A, c, ho, _, _, _⟩ := h.open_
  obtain ⟨X, xc, xl⟩ := x
  simp only at hx hxl hf hbad
  have HR := Lib.hid h
  have HG := Lib.hid hg
  have HX := Lib.hid hx
  have h0 := ho.cell0
  have h1 := ho.cell1
  have q0 := ho.lt
  by_cases hlen : (xl.length : Int) = a
  · have HT := Lib.hid (TRight_any X xc xl (by unfold maxLen; omega) hf w hx)
    by_cases hrt : rightT xl = true
    · rw [hrt] at HT
      by_cases hfn : fndT (lists ts) xl = true
      · have HE : Hid (addE a (lists ts) xl = 0) := by show _ = _; simp [addE, hlen, hrt, hfn]
        have HB := Lib.hid hbad
        have HF := Lib.hid (fun W (hb : Below w.heap.size w W) => find_any b a ts S (X, xc, xl) W (HR.out.below hb) HG.out (HX.out.below hb) (by unfold maxLen; simp only; omega))
        simp only [hfn] at HF
        subst hlen
        clear h hg hx ho hf hbad hrt hfn
        generalize posT (lists ts) xl = p at HF
        go_enter Try.func15, Try.ntmps15
        go_wp2_with fail
        refine HT.out.mono ?_
        rintro e w1 ⟨rfl, b1⟩
        have B1 := Lib.hid b1
        clear b1
        go_wp2_with fail
        refine (HF.out _ B1.out).mono ?_
        rintro e w2 ⟨rfl, b2⟩
        have B2 := Lib.hid (B1.out.trans (b2.mono B1.out.size))
        clear b2
        go_wp2
        refine bodyPost_ret (v := .tuple #[.bool false, .nilIface]) (by simp [results, Try.results15, go_sem]) rfl ?_
        rw [← err0]
        exact AddPost2.same HR.out B2.out HB.out HE.out
      · have hfn : fndT (lists ts) xl = false := by simpa using hfn
        have hfull : 2000 ≤ ts.length := by
          simp only [addB, hlen, hrt, hfn, decide_true, Bool.true_and, Bool.not_false] at hbad
          simpa using hbad
        have hc0 : (0 : Int) ≤ (ts.length : Int) := by omega
        have hc1 : (2000 : Int) ≤ (ts.length : Int) := by omega
        have HE : Hid (addE a (lists ts) xl = 11) := by show _ = _; simp [addE, hlen, hrt, hfn, hfull]
        have HB := Lib.hid hbad
        have HF := Lib.hid (fun W (hb : Below w.heap.size w W) => find_any b a ts S (X, xc, xl) W (HR.out.below hb) HG.out (HX.out.below hb) (by unfold maxLen; simp only; omega))
        simp only [hfn] at HF
        subst hlen
        clear h hg hx ho hf hbad hrt hfn hfull
        generalize posT (lists ts) xl = p at HF
        go_enter Try.func15, Try.ntmps15
        go_wp2_with fail
        refine HT.out.mono ?_
        rintro e w1 ⟨rfl, b1⟩
        have B1 := Lib.hid b1
        clear b1
        go_wp2_with fail
        refine (HF.out _ B1.out).mono ?_
        rintro e w2 ⟨rfl, b2⟩
        have B2 := Lib.hid (B1.out.trans (b2.mono B1.out.size))
        have h1 := (B2.out.cell (p := ⟨b, 1, none⟩) q0).trans h1
        have q2 : b < w2.heap.size := Nat.lt_of_lt_of_le q0 B2.out.size
        clear b2 h0
        go_wp2
        refine bodyPost_ret (v := .tuple #[.bool false, eno 11]) (by simp [results, Try.results15, go_sem]) rfl ?_
        rw [← err_eno (by decide)]
        exact AddPost2.same HR.out B2.out HB.out HE.out
    · have hrt : rightT xl = false := by simpa using hrt
      rw [hrt] at HT
      have HE : Hid (addE a (lists ts) xl = 2) := by show _ = _; simp [addE, hlen, hrt]
      have HB := Lib.hid hbad
      subst hlen
      clear h hg hx ho hf hbad hrt
      go_enter Try.func15, Try.ntmps15
      go_wp2_with fail
      refine HT.out.mono ?_
      rintro e w1 ⟨rfl, b1⟩
      have B1 := Lib.hid b1
      clear b1
      go_wp2
      refine bodyPost_ret (v := .tuple #[.bool false, eno 2]) (by simp [results, Try.results15, go_sem]) rfl ?_
      rw [← err_eno (by decide)]
      exact AddPost2.same HR.out B1.out HB.out HE.out
  · have HE : Hid (addE a (lists ts) xl = 6) := by show _ = _; simp [addE, hlen]
    have HB := Lib.hid hbad
    have hne := len_ne _ _ hlen
    clear h hg hx ho hf hbad hlen
    go_enter Try.func15, Try.ntmps15
    go_wp2
    refine bodyPost_ret (v := .tuple #[.bool false, eno 6]) (by simp [results, Try.results15, go_sem]) rfl ?_
    rw [← err_eno (by decide)]
    exact AddPost2.same HR.out (Below.refl _ _) HB.out HE.out
/-- a slice with one tuple more is stored into the record: the relation then. -/
theorem rel_stored2 {w w3 w4 : World} {b : Nat} {a : Int} {ts : List TV} {G G' : List Nat} {A A' : Option Addr} {c c' p : Nat} {xl : List V3} {v' : Value}
    (hR : RelAt w b a ts (b :: G)) (ho : Own w b 77 [.int .i64 a, .slice A ts.length c]) (hbG : b ∉ G) (hok : addB a (lists ts) xl = true) (hE : addE a (lists ts) xl = 0) (hp : posT (lists ts) xl = p) (xX : Option Addr × Nat)
    (b3 : Below w.heap.size w w3) (hn' : A' = none → c' = 0) (hr' : Row w3 A' xl) (hnew : ∀ g o, A' = some ⟨g, o, none⟩ → w.heap.size ≤ g)
    (ha4 : Arr w4 v' (ts.take p ++ ((A', c', xl) : TV) :: ts.drop p) G') (k4 : Kept G w3 w4) (s4 : Sub G' G w3.heap.size) :
    AddPost2 w b a ts (b :: G) (xX.1, xX.2, xl) (.returned (.tuple #[.bool true, .nilIface])) (w4.setCell ⟨b, 1, none⟩ v') := by
  have hsub := hR.sub
  have hbw : b < w.heap.size := hsub b (by simp)
  have k03 : Kept (b :: G) w w3 := Kept.of _ b3
  have k04 : Kept (b :: G) w w4 := k03.trans k4 (fun k hk => .inl (by simp [hk]))
  have k05 : Kept (b :: G) w (w4.setCell ⟨b, 1, none⟩ v') := k04.setCell (.inl (by simp)) _
  have s5 : Sub (b :: G') (b :: G) w.heap.size := by
    intro k hk
    rcases List.mem_cons.1 hk with rfl | hk
    · exact .inl (by simp)
    · rcases s4 k hk with h | h
      · exact .inl (by simp [h])
      · exact .inr (Nat.le_trans b3.size h)
  have hbG' : b ∉ G' := fun h => by
    rcases s4 b h with h | h
    · exact hbG h
    · have := b3.size
      omega
  have k5 : Kept [b] w4 (w4.setCell ⟨b, 1, none⟩ v') := (Kept.refl [b] w4).setCell (.inl (by simp)) _
  refine ⟨_, b :: G', ?_, ⟨v', G', rfl, ?_, ha4.kept k5 (fun g hg h => ?_), hbG', ?_⟩, ?_, k05, s5, fun t ht => by
    rcases List.mem_append.1 ht with ht | ht
    · exact .inl (List.mem_of_mem_take ht)
    · rcases List.mem_cons.1 ht with rfl | ht
      · exact .inr hnew
      · exact .inl (List.mem_of_mem_drop ht)⟩
  · rw [hok, hE, err0]
  · have := (k4.own (((Kept.of [] b3).own ho (by simp))) hbG).set 1 v'
    exact this
  · simp only [List.mem_singleton] at h
    subst h
    exact hbG' hg
  · obtain ⟨_, _, hS, _, _, _, hrows⟩ := hR
    have hold : ∀ t ∈ ts, RowO (b :: G') (w4.setCell ⟨b, 1, none⟩ v') t.1 t.2.2 ∧ (t.1 = none → t.2.1 = 0) := fun t ht => ⟨((hrows t ht).1).kept k05 s5, (hrows t ht).2⟩
    intro t ht
    rcases List.mem_append.1 ht with ht | ht
    · exact hold t (List.mem_of_mem_take ht)
    · rcases List.mem_cons.1 ht with rfl | ht
      · refine ⟨fun h0 => ?_, hn'⟩
        obtain ⟨g, o, e, hlt, hc⟩ := hr' h0
        have hge := hnew g o e
        have hgb : g ∉ b :: G := fun h => by have := hsub g h; omega
        have k35 : Kept (b :: G) w3 (w4.setCell ⟨b, 1, none⟩ v') := (k4.more (fun k hk => by simp [hk])).setCell (.inl (by simp)) _
        refine ⟨g, o, e, Nat.lt_of_lt_of_le hlt k35.size, fun h => ?_, fun i y hy => ?_⟩
        · rcases List.mem_cons.1 h with rfl | h
          · exact hgb (by simp)
          · rcases s4 g h with h | h
            · exact hgb (by simp [h])
            · omega
        · obtain ⟨c1, c2, c3⟩ := hc i y hy
          exact ⟨(k35.cell hlt hgb).trans c1, (k35.cell hlt hgb).trans c2, (k35.cell hlt hgb).trans c3⟩
      · exact hold t (List.mem_of_mem_drop ht)
  · rw [map_ins (x := (A', c', xl)) hp]
    simp [addL, hok]

set_option maxRecDepth 100000 in
set_option maxHeartbeats 1000000 in
theorem Add_ins2 (b : Nat) (a : Int) (ts : List TV) (S : List Nat) (x : TV) (w : World) (h : RelAt w b a ts S) (hg : Good a (lists ts)) (hx : Row w x.1 x.2.2) (hxn : x.1 = none → x.2.1 = 0) (hf : Fit x.2.2) (hok : addB a (lists ts) x.2.2 = true) :
    Calls Try.prog 15 #[rp b, tval x] w fun e w' => AddPost2 w b a ts S x e w' := by
  obtain ⟨v, G, rfl, ho, ha, hbG, hrows⟩ := id h
  obtain ⟨A, c, rfl, hAc, hlst, hlc⟩ := ha.lst [] (fun _ _ h => by cases h) (fun t h1 => (hrows t h1).1.nil')
  obtain ⟨X, xc, xl⟩ := x
  simp only at hx hxn hf hok
  have HOK := Lib.hid hok
  simp only [addB, Bool.and_eq_true, decide_eq_true_eq, Bool.not_eq_true'] at hok
  obtain ⟨⟨⟨hlen, hrt⟩, hfn⟩, hfull⟩ := hok
  have h6 := right_six hrt
  have HR := Lib.hid h
  have HG := Lib.hid hg
  have HX := Lib.hid hx
  have HA := Lib.hid ha
  have HBG := Lib.hid hbG
  have HRows := Lib.hid hrows
  have h0 := ho.cell0
  have h1 := ho.cell1
  have q0 := ho.lt
  have HO := Lib.hid ho
  have HT := Lib.hid (TRight_any X xc xl (by unfold maxLen; omega) hf w hx)
  rw [hrt] at HT
  have hfull' : (ts.length : Int) < 2000 := by simp at hfull; omega
  have HE : Hid (addE a (lists ts) xl = 0) := by show _ = _; simp at hfull; simp [addE, hlen, hrt, hfn]; omega
  have HF := Lib.hid (fun W (hb : Below w.heap.size w W) => find_any b a ts (b :: G) (X, xc, xl) W (HR.out.below hb) HG.out (HX.out.below hb) (by unfold maxLen; simp only; omega))
  simp only [hfn] at HF
  have HCp := Lib.hid (fun W (hb : Below w.heap.size w W) => Copy_new X xc xl (by omega) hxn W (HX.out.below hb))
  subst hlen
  have HP := Lib.hid (posT_le (lists ts) xl)
  have HNil := Lib.hid (fun (g : Nat) (_ : g ∈ G) => (List.not_mem_nil : g ∉ []))
  have HTL := Lib.hid (show ts.length ≤ 2000 by omega)
  have HNG := Lib.hid (show ∀ n, w.heap.size ≤ n → n ∉ G from fun n hn hm => absurd (h.sub n (List.mem_cons_of_mem _ hm)) (by omega))
  clear h hg hx ho hf hrt hfn hfull ha hrows hlst
  obtain ⟨p, hp⟩ : ∃ p, posT (lists ts) xl = p := ⟨_, rfl⟩
  have HPP := Lib.hid hp
  rw [hp] at HP HF
  have HPL : Hid (p ≤ ts.length) := by
    have := HP.out
    simp only [List.length_map] at this
    exact this
  clear hp
  go_enter Try.func15, Try.ntmps15
  go_wp2_with fail
  refine HT.out.mono ?_
  rintro e w1 ⟨rfl, b1⟩
  have B1 := Lib.hid b1
  clear b1
  go_wp2_with fail
  refine (HF.out _ B1.out).mono ?_
  rintro e w2 ⟨rfl, b2⟩
  have B2 := Lib.hid (B1.out.trans (b2.mono B1.out.size))
  have h1 := (B2.out.cell (p := ⟨b, 1, none⟩) q0).trans h1
  have q2 : b < w2.heap.size := Nat.lt_of_lt_of_le q0 B2.out.size
  clear b2 h0
  go_wp2_with fail
  go_region_with (first
    | (go_at_call 44; refine (HCp.out _ ?_).mono ?_; exact B2.out.drew; rintro e w3 ⟨A', c', rfl, hn', hr', hnew, b3⟩; have HN := Lib.hid (show A' = none → c' = 0 from hn'); have HRW := Lib.hid hr'; have HNW := Lib.hid (show ∀ g o, A' = some ⟨g, o, none⟩ → w.heap.size ≤ g from fun g o h => Nat.le_trans B2.out.size (hnew g o h)); have h13 : w3.cell? ⟨b, 1, none⟩ = some (.slice A ts.length c) := (b3.cell (p := ⟨b, 1, none⟩) q2).trans h1; have q3 : b < w3.heap.size := Nat.lt_of_lt_of_le q2 b3.size; have B3 := Lib.hid (B2.out.drew.trans (b3.mono B2.out.size)); clear hn' hr' hnew b3)
    | (go_at_call 43; refine (Insert_any _ ts G p _ (A', c', xl) _ ?_ ?_ ?_ ?_ ?_).mono ?_; exact HA.out.kept ((Kept.of [] B3.out).alloc _) HNil.out; exact HPL.out; exact HTL.out; exact heap_alloc_new w3 _; exact HNG.out _ B3.out.size; rintro e w4 ⟨v', G', rfl, ha4, k4, s4⟩; obtain ⟨A4, n4, c4, rfl⟩ := ha4.val3; have HQ := Lib.hid (rel_stored2 HR.out HO.out HBG.out HOK.out HE.out HPP.out (X, xc) (B3.out.alloc B3.out.size _) HN.out (HRW.out.below ((Below.refl _ _).alloc (Nat.le_refl _) _)) HNW.out ha4 k4 s4); have O4 := k4.own (((Kept.of [] B3.out).alloc (.cells #[.slice A' xl.length c'] 35)).own HO.out List.not_mem_nil) HBG.out; have h14 := O4.cell1; have f14 := O4.frozen 1; have q4 := O4.lt; clear ha4 k4 s4 O4 h13 q3))
  all_goals
    go_wp2
    refine bodyPost_ret (v := .tuple #[.bool true, .nilIface]) (by simp [results, Try.results15, go_sem]) rfl ?_
    exact HQ.out
theorem Add_any2 (b : Nat) (a : Int) (ts : List TV) (S : List Nat) (x : TV) (w : World) (h : RelAt w b a ts S) (hg : Good a (lists ts)) (hx : Row w x.1 x.2.2) (ht : Tok x) :
    Calls Try.prog 15 #[rp b, tval x] w fun e w' => AddPost2 w b a ts S x e w' := by
  by_cases hok : addB a (lists ts) x.2.2 = true
  · exact Add_ins2 b a ts S x w h hg hx ht.1 ht.2.2 hok
  · exact Add_out2 b a ts S x w h hg hx ht.2.1 ht.2.2 (by simpa using hok)

end Go.Proofs.Ytdgjpikipkjhhaa
