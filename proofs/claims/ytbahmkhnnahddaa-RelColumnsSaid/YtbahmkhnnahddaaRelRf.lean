/- The document's relations: Of. Conditions: tuples of at most 50 values, at most 2000. -/
import Derived.Test.YtbahmkhnnahddaaRelRe
import Derived.Test.YtbahmkhnnahddaaRelW
namespace Go.Proofs.Ytbahmkhnnahddaa
open Go.RowKit Go.Deep Go.Shelf

def ROfPost (S : List Nat) (w : World) (a : Int) (L : List (List V3)) (n : Int) (e : Ending) (w' : World) : Prop :=
  (n = 0 ∧ ∃ m, e = .returned (.tuple #[m, .int .i64 0]) ∧ RefR S w' a m L ∧ Below w.heap.size w w') ∨ (n ≠ 0 ∧ e = .returned (.tuple #[rv3 0 none 0 0, .int .i64 n]) ∧ Below w.heap.size w w')
theorem Good.lok {a : Int} {L : List (List V3)} (h : Good a L) (ha : a ≤ 6) : LOk L := ⟨h.2.1, fun l hl => by have := (h.1 l hl).2; omega⟩

/-- what the loop over tuples has come to. -/
def OfI (S : List Nat) (w : World) (a n : Int) (L : List (List V3)) (rest : List (List V3)) (wr : World) : Prop :=
  ∃ A c nn M, Own wr (w.heap.size + 1) 33 [.int .i64 a, .slice A nn c] ∧ RefR (w.heap.size :: (w.heap.size + 1) :: S) wr a (rv3 a A nn c) M ∧ Good a M ∧ Own wr w.heap.size 33 [.int .i64 0, .slice none 0 0] ∧ Below w.heap.size w wr ∧ n = allE a M rest ∧ L = allL a M rest
abbrev ofW (w : World) (a : Int) : World := (w.alloc (.cells #[.int .i64 0, .slice none 0 0] 33)).alloc (.cells #[.int .i64 a, .slice none 0 0] 33)
theorem of_start (S : List Nat) (w : World) (a : Int) (xs : List (List V3)) : OfI S w a (allE a [] xs) (allL a [] xs) xs (ofW w a) := by
  have h1 : Own (w.alloc (.cells #[.int .i64 0, .slice none 0 0] 33)) w.heap.size 33 [.int .i64 0, .slice none 0 0] := heap_alloc_new w _
  have h2 := heap_alloc_new (w.alloc (.cells #[.int .i64 0, .slice none 0 0] 33)) (.cells #[.int .i64 a, .slice none 0 0] 33)
  rw [World.size_alloc] at h2
  exact ⟨none, 0, 0, [], h2, ⟨[], ⟨none, 0, rfl, (fun _ => rfl), Nat.le_refl _, Lst.nil _ _ _, (fun t h => by cases h), .inl rfl⟩, rfl⟩, Good.nil a, h1.alloc _, ((Below.refl _ w).alloc (Nat.le_refl _) _).alloc (by simp) _, rfl, rfl⟩

theorem allE_cons0 {a : Int} {M r : List (List V3)} {x : List V3} (h : addE a M x = 0) : allE a M (x :: r) = allE a (addL a M x) r ∧ allL a M (x :: r) = allL a (addL a M x) r := by simp [allE, allL, h]
theorem allE_consN {a : Int} {M r : List (List V3)} {x : List V3} (h : addE a M x ≠ 0) : allE a M (x :: r) = addE a M x := by simp [allE, h]

set_option maxRecDepth 100000 in
set_option maxHeartbeats 1000000 in
theorem refOf_bad (S : List Nat) (a : Int) (xs : List (List V3)) (v : Value) (w : World) (hb : a < 0 ∨ 6 < a) :
    Calls Try.prog 23 #[.int .i64 a, v] w fun e w' => ROfPost S w a (ofL a xs) (ofE a xs) e w' := by
  have hO : Own (w.alloc (.cells #[.int .i64 0, .slice none 0 0] 33)) w.heap.size 33 [.int .i64 0, .slice none 0 0] := heap_alloc_new w _
  have HQ : Hid (ROfPost S w a (ofL a xs) (ofE a xs) (.returned (.tuple #[rv3 0 none 0 0, .int .i64 6])) (w.alloc (.cells #[.int .i64 0, .slice none 0 0] 33))) := .inr ⟨by simp [ofE, hb], by simp [ofE, hb], (Below.refl _ w).alloc (Nat.le_refl _) _⟩
  have HO := Lib.hid hO
  clear hO
  by_cases h0 : a < 0
  · clear hb
    go_enter Try.func23, Try.ntmps23
    go_wp2
    refine bodyPost_ret (v := .tuple #[rv3 0 none 0 0, .int .i64 6]) (by simp [results, Try.results23, go_sem, HO.out.cell 0, HO.out.cell 1]) rfl HQ.out
  · have h6 : 6 < a := by omega
    clear hb
    go_enter Try.func23, Try.ntmps23
    go_wp2
    refine bodyPost_ret (v := .tuple #[rv3 0 none 0 0, .int .i64 6]) (by simp [results, Try.results23, go_sem, HO.out.cell 0, HO.out.cell 1]) rfl HQ.out

/-- a round's last steps. -/
theorem of_next {S T : List Nat} {w wr w2 W : World} {a n : Int} {L M r : List (List V3)} {x : List V3} {A : Option Addr} {c nn : Nat} (hT : ∀ k ∈ w.heap.size :: (w.heap.size + 1) :: S, k ∈ T) (hR : RefR T w2 a (rv3 a A nn c) (addL a M x)) (hK : Kept T w2 W)
    (h1 : Own W (w.heap.size + 1) 33 [.int .i64 a, .slice A nn c]) (h0 : Own W w.heap.size 33 [.int .i64 0, .slice none 0 0]) (hB : Below w.heap.size w wr) (hB2 : Below wr.heap.size wr w2) (hB3 : Below w.heap.size w2 W) (hg : Good a M) (he : addE a M x = 0) (hn : n = allE a M (x :: r)) (hL : L = allL a M (x :: r)) : OfI S w a n L r W :=
  ⟨A, c, nn, addL a M x, h1, hR.kept hK (fun k hk => .inl (hT k hk)), hg.add x, h0, (hB.trans (hB2.mono hB.size)).trans hB3, hn.trans (allE_cons0 he).1, hL.trans (allE_cons0 he).2⟩

/-- behind the call of Add: what holds where 'next' is made after it (B), and before it (A). -/
def OfB (S : List Nat) (w : World) (a : Int) (M : List (List V3)) (x : List V3) (A : Option Addr) (c nn : Nat) (wr w2 : World) : Prop :=
  RefR (w.heap.size :: (w.heap.size + 1) :: S) w2 a (rv3 a A nn c) (addL a M x) ∧ (∃ A0 n0 c0, Own w2 (w.heap.size + 1) 33 [.int .i64 a, .slice A0 n0 c0]) ∧ Own w2 w.heap.size 33 [.int .i64 0, .slice none 0 0] ∧ Below wr.heap.size wr w2
def OfA (S : List Nat) (w : World) (a : Int) (M : List (List V3)) (x : List V3) (A : Option Addr) (c nn : Nat) (wr w2 : World) : Prop :=
  RefR (wr.heap.size :: w.heap.size :: (w.heap.size + 1) :: S) w2 a (rv3 a A nn c) (addL a M x) ∧ (∃ A0 n0 c0, Own w2 (w.heap.size + 1) 33 [.int .i64 a, .slice A0 n0 c0]) ∧ Own w2 w.heap.size 33 [.int .i64 0, .slice none 0 0] ∧ Own w2 wr.heap.size 33 [.int .i64 0, .slice none 0 0] ∧ Below wr.heap.size wr w2
theorem of_nextB {S : List Nat} {w wr w2 : World} {a n : Int} {L M r : List (List V3)} {x : List V3} {A : Option Addr} {c nn : Nat} (h : OfB S w a M x A c nn wr w2) (hB : Below w.heap.size w wr) (hg : Good a M) (he : addE a M x = 0) (hn : n = allE a M (x :: r)) (hL : L = allL a M (x :: r)) :
    OfI S w a n L r (((w2.setCell ⟨w.heap.size + 1, 0, none⟩ (.int .i64 a)).setCell ⟨w.heap.size + 1, 1, none⟩ (.slice A nn c)).alloc (.cells #[.int .i64 a, .slice A nn c] 33)) := by
  obtain ⟨h2, ⟨_, _, _, h6⟩, h4, hb⟩ := h
  have hs := hB.size
  have hs2 := hb.size
  exact of_next (T := w.heap.size :: (w.heap.size + 1) :: S) (fun _ h => h) h2 ((((Kept.refl _ w2).setCell (.inl (by simp)) _).setCell (.inl (by simp)) _).alloc _) (h6.two.alloc _)
    (((((Kept.refl [w.heap.size + 1] w2).setCell (.inl (by simp)) _).setCell (.inl (by simp)) _).own h4 (by simp)).alloc _) hB hb ((((Below.refl _ w2).setCell (by simp) _).setCell (by simp) _).alloc (by simp; omega) _) hg he hn hL
theorem of_nextA {S : List Nat} {w wr w2 : World} {a n : Int} {L M r : List (List V3)} {x : List V3} {A : Option Addr} {c nn : Nat} (h : OfA S w a M x A c nn wr w2) (hB : Below w.heap.size w wr) (hq : w.heap.size + 1 < wr.heap.size) (hg : Good a M) (he : addE a M x = 0) (hn : n = allE a M (x :: r)) (hL : L = allL a M (x :: r)) :
    OfI S w a n L r ((((w2.setCell ⟨wr.heap.size, 0, none⟩ (.int .i64 a)).setCell ⟨wr.heap.size, 1, none⟩ (.slice A nn c)).setCell ⟨w.heap.size + 1, 0, none⟩ (.int .i64 a)).setCell ⟨w.heap.size + 1, 1, none⟩ (.slice A nn c)) := by
  obtain ⟨h2, ⟨_, _, _, h6⟩, h4, _, hb⟩ := h
  have hs := hB.size
  have hs2 := hb.size
  have kq : Kept [wr.heap.size] w2 ((w2.setCell ⟨wr.heap.size, 0, none⟩ (.int .i64 a)).setCell ⟨wr.heap.size, 1, none⟩ (.slice A nn c)) := ((Kept.refl _ w2).setCell (.inl (by simp)) _).setCell (.inl (by simp)) _
  exact of_next (T := wr.heap.size :: w.heap.size :: (w.heap.size + 1) :: S) (fun _ h => List.mem_cons_of_mem _ h) h2 (((((Kept.refl _ w2).setCell (.inl (by simp)) _).setCell (.inl (by simp)) _).setCell (.inl (by simp)) _).setCell (.inl (by simp)) _) (kq.own h6 (by simp only [List.mem_singleton]; omega)).two
    ((((Kept.refl [w.heap.size + 1] ((w2.setCell ⟨wr.heap.size, 0, none⟩ (.int .i64 a)).setCell ⟨wr.heap.size, 1, none⟩ (.slice A nn c))).setCell (.inl (by simp)) _).setCell (.inl (by simp)) _).own (kq.own h4 (by simp only [List.mem_singleton]; omega)) (by simp)) hB hb (((((Below.refl _ w2).setCell (by simp; omega) _).setCell (by simp; omega) _).setCell (by simp) _).setCell (by simp) _) hg he hn hL
theorem of_errB {S : List Nat} {w wr w2 : World} {a n ev : Int} {M : List (List V3)} {x : List V3} {A : Option Addr} {c nn : Nat} (h : OfB S w a M x A c nn wr w2) (hB : Below w.heap.size w wr) (L : List (List V3)) (hn : n = ev) (h0 : ev ≠ 0) :
    ROfPost S w a L n (.returned (.tuple #[rv3 0 none 0 0, .int .i64 ev])) (((w2.setCell ⟨w.heap.size, 0, none⟩ (.int .i64 0)).setCell ⟨w.heap.size, 1, none⟩ (.slice none 0 0)).alloc (.cells #[.int .i64 a, .slice A nn c] 33)) := by
  obtain ⟨_, _, _, hb⟩ := h
  have hs := hB.size
  have hs2 := hb.size
  subst hn
  exact .inr ⟨h0, rfl, (((hB.trans (hb.mono hs)).setCell (by simp) _).setCell (by simp) _).alloc (by simp; omega) _⟩
theorem of_errA {S : List Nat} {w wr w2 : World} {a n ev : Int} {M : List (List V3)} {x : List V3} {A : Option Addr} {c nn : Nat} (h : OfA S w a M x A c nn wr w2) (hB : Below w.heap.size w wr) (L : List (List V3)) (hn : n = ev) (h0 : ev ≠ 0) :
    ROfPost S w a L n (.returned (.tuple #[rv3 0 none 0 0, .int .i64 ev])) ((((w2.setCell ⟨wr.heap.size, 0, none⟩ (.int .i64 a)).setCell ⟨wr.heap.size, 1, none⟩ (.slice A nn c)).setCell ⟨w.heap.size, 0, none⟩ (.int .i64 0)).setCell ⟨w.heap.size, 1, none⟩ (.slice none 0 0)) := by
  obtain ⟨_, _, _, _, hb⟩ := h
  have hs := hB.size
  subst hn
  exact .inr ⟨h0, rfl, ((((hB.trans (hb.mono hs)).setCell (by simp; omega) _).setCell (by simp; omega) _).setCell (by simp) _).setCell (by simp) _⟩

set_option maxRecDepth 100000 in
set_option maxHeartbeats 4000000 in
theorem refOf_ok (S : List Nat) (a : Int) (A : Option Addr) (c : Nat) (xs : List TV) (w : World) (hS : ∀ k ∈ S, k < w.heap.size) (hl : Lst [] w A xs) (ht : ∀ x ∈ xs, Tok x) (hn : xs.length ≤ maxLen) (h0 : 0 ≤ a) (h6 : a ≤ 6) :
    Calls Try.prog 23 #[.int .i64 a, .slice A xs.length c] w fun e w' => ROfPost S w a (ofL a (lists xs)) (ofE a (lists xs)) e w' := by
  unfold maxLen at hn
  have e1 : ofE a (lists xs) = allE a [] (lists xs) := by unfold ofE; rw [if_neg (by omega)]
  have HST := Lib.hid (of_start S w a (lists xs))
  rw [e1]
  unfold ofL
  have HL := Lib.hid hl
  have HT := Lib.hid ht
  have HSS := Lib.hid hS
  have H6 := Lib.hid h6
  have mixed : Try.prog.follows .mixedOrders = true := by kernel_rfl
  generalize allE a [] (lists xs) = n at HST ⊢
  generalize allL a [] (lists xs) = L at HST ⊢
  clear hl ht hS e1
  go_enter Try.func23, Try.ntmps23
  go_wp2_with fail
  go_loopw [7] (fun ix wr => ∃ k : Nat, k ≤ xs.length ∧ ix = .int .i64 k ∧ Hid (OfI S w a n L (lists (xs.drop k)) wr)) (fun ix _ => xs.length - (intOf ix).toNat)
  case atStart => exact ⟨0, Nat.zero_le _, rfl, HST.out⟩
  case round =>
    obtain ⟨k, hk, rfl, HI⟩ := hrel
    obtain ⟨A0, c0, nn, M, i1, i2, i3, i4, i5, i6, i7⟩ := HI.out
    have h60 := i1.cell 0
    have h61 := i1.cell 1
    have f60 := i1.frozen 0
    have f61 := i1.frozen 1
    have q6 := i1.lt
    have h40 := i4.cell 0
    have h41 := i4.cell 1
    have f40 := i4.frozen 0
    have f41 := i4.frozen 1
    have q4 := i4.lt
    have HO6 := Lib.hid i1
    have HO4 := Lib.hid i4
    have HR := Lib.hid i2
    have HB6 := Lib.hid i1
    have HG := Lib.hid i3
    have HB := Lib.hid i5
    have HE := Lib.hid i6
    have HLq := Lib.hid i7
    clear i1 i2 i3 i4 i5 i6 i7 HI
    by_cases hlt : k < xs.length
    · obtain ⟨g, o, rfl, hgw, _, hc1, hr⟩ := HL.out.at_ hlt
      have hc1 := (HB.out.cell (p := ⟨g, o + k, none⟩) hgw).trans hc1
      have qg : g < wr.heap.size := Nat.lt_of_lt_of_le hgw HB.out.size
      have htk := HT.out _ (List.getElem_mem hlt)
      have hd : lists (xs.drop k) = xs[k].2.2 :: lists (xs.drop (k + 1)) := by rw [List.drop_eq_getElem_cons hlt]; rfl
      rw [hd] at HE HLq
      have HA : Hid (∀ (T : List Nat) W, Below wr.heap.size wr W → (∀ k ∈ T, k < W.heap.size) → Sub T (w.heap.size :: (w.heap.size + 1) :: S) wr.heap.size → Calls Try.prog 16 #[rv3 a A0 nn c0, tval xs[k]] W fun e w' => RAddPost T W a M xs[k].2.2 e w') := fun T W hb hT hsub =>
        refAdd_any T a _ M xs[k] W hT (HR.out.kept (Kept.of _ hb) hsub) (HG.out.lok H6.out) HG.out.2.2 ((hr.row.below HB.out).below hb) htk.1 (by have := htk.2.1; omega) htk.2.2
      clear hr htk hd
      generalize xs[k] = x at hc1 HA HE HLq
      obtain ⟨X, xc, xl⟩ := x
      change wr.cell? ⟨g, o + k, none⟩ = some (.slice X xl.length xc) at hc1
      simp only at HA HE HLq
      have hSS : ∀ j ∈ w.heap.size :: (w.heap.size + 1) :: S, j < wr.heap.size := fun j hj => by
        have h1 := HSS.out
        have h2 := HB.out.size
        simp only [List.mem_cons] at hj
        rcases hj with rfl | rfl | hj
        · exact q4
        · exact q6
        · exact Nat.lt_of_lt_of_le (h1 j hj) h2
      have hbB : Below wr.heap.size wr wr.drew := (Below.refl _ wr).drew
      have hbA : Below wr.heap.size wr (wr.drew.alloc (.cells #[.int .i64 0, .slice none 0 0] 33)) := hbB.alloc (Nat.le_refl _) _
      have hoA : Own (wr.drew.alloc (.cells #[.int .i64 0, .slice none 0 0] 33)) wr.heap.size 33 [.int .i64 0, .slice none 0 0] := heap_alloc_new wr.drew _
      have hsA : (wr.drew.alloc (.cells #[.int .i64 0, .slice none 0 0] 33)).heap.size = wr.heap.size + 1 := World.size_alloc wr.drew _
      obtain ⟨ev, hev⟩ : ∃ ev, addE a M xl = ev := ⟨_, rfl⟩
      obtain ⟨bo, hbo⟩ : ∃ bo, addB a M xl = bo := ⟨_, rfl⟩
      have HAB : Hid (Calls Try.prog 16 #[rv3 a A0 nn c0, tval (X, xc, xl)] wr.drew fun e w2 => ∃ A2 c2 nn2, e = .returned (.tuple #[rv3 a A2 nn2 c2, .bool bo, .int .i64 ev]) ∧ OfB S w a M xl A2 c2 nn2 wr w2) :=
        (HA.out (w.heap.size :: (w.heap.size + 1) :: S) _ hbB (fun j hj => hSS j hj) (Sub.refl _ _)).mono fun e w2 h => by
          obtain ⟨m, rfl, hm, hb2⟩ := h
          obtain ⟨us2, ⟨A2, c2, rfl, hA2⟩, hl2⟩ := hm
          have b := hbB.trans hb2
          exact ⟨A2, c2, us2.length, by rw [hev, hbo], ⟨us2, ⟨A2, c2, rfl, hA2⟩, hl2⟩, ⟨_, _, _, HO6.out.below b⟩, HO4.out.below b, b⟩
      have HAA : Hid (Calls Try.prog 16 #[rv3 a A0 nn c0, tval (X, xc, xl)] (wr.drew.alloc (.cells #[.int .i64 0, .slice none 0 0] 33)) fun e w2 => ∃ A2 c2 nn2, e = .returned (.tuple #[rv3 a A2 nn2 c2, .bool bo, .int .i64 ev]) ∧ OfA S w a M xl A2 c2 nn2 wr w2) :=
        (HA.out (wr.heap.size :: w.heap.size :: (w.heap.size + 1) :: S) _ hbA (fun j hj => by
          rw [hsA]
          rcases List.mem_cons.1 hj with rfl | hj
          · exact Nat.lt_succ_self _
          · exact Nat.lt_succ_of_lt (hSS j hj)) (fun j hj => by
          rcases List.mem_cons.1 hj with rfl | hj
          · exact .inr (Nat.le_refl _)
          · exact .inl hj)).mono fun e w2 h => by
          obtain ⟨m, rfl, hm, hb2⟩ := h
          obtain ⟨us2, ⟨A2, c2, rfl, hA2⟩, hl2⟩ := hm
          have b := hbA.trans (hb2.mono (by rw [hsA]; exact Nat.le_succ _))
          exact ⟨A2, c2, us2.length, by rw [hev, hbo], ⟨us2, ⟨A2, c2, rfl, hA2⟩, hl2⟩, ⟨_, _, _, HO6.out.below b⟩, HO4.out.below b, hoA.below hb2, b⟩
      clear hSS hbB hbA hoA hsA hbo HA HO6 HO4 HR h60 h61 f60 f61 h40 h41 f40 f41
      have q6w := q6
      have h60 := HB6.out.cell 0
      have h61 := HB6.out.cell 1
      by_cases he : ev = 0
      · subst he
        have HEz := Lib.hid hev
        clear hev
        go_wp2_with fail
        go_region_with (first
          | (go_at_call 16
             refine HAB.out.mono ?_
             rintro e w2 ⟨A2, c2, nn2, rfl, j2, ⟨A6, n6, c6, j6⟩, j4, jb⟩
             have HQ := Lib.hid (of_nextB ⟨j2, ⟨_, _, _, j6⟩, j4, jb⟩ HB.out HG.out HEz.out HE.out HLq.out)
             have h60 := j6.cell 0
             have h61 := j6.cell 1
             have f60 := j6.frozen 0
             have f61 := j6.frozen 1
             have q6 := j6.lt
             clear j2 j6 j4 jb)
          | (go_at_call 16
             refine HAA.out.mono ?_
             rintro e w2 ⟨A2, c2, nn2, rfl, j2, ⟨A6, n6, c6, j6⟩, j4, j8, jb⟩
             have HQ := Lib.hid (of_nextA ⟨j2, ⟨_, _, _, j6⟩, j4, j8, jb⟩ HB.out q6w HG.out HEz.out HE.out HLq.out)
             have h60 := j6.cell 0
             have h61 := j6.cell 1
             have f60 := j6.frozen 0
             have f61 := j6.frozen 1
             have q6 := j6.lt
             have h80 := j8.cell 0
             have h81 := j8.cell 1
             have f80 := j8.frozen 0
             have f81 := j8.frozen 1
             have q8 := j8.lt
             clear j2 j6 j4 j8 jb))
        all_goals
          go_wp2
          go_roundw
          case rel => exact ⟨k + 1, by omega, by go_num, HQ.out⟩
          case measure => simp [intOf]; omega
      · have hz : (ev == 0) = false := by simpa using he
        have HEv : Hid (n = ev ∧ ev ≠ 0) := ⟨by rw [HE.out, allE_consN (by rw [hev]; exact he), hev], he⟩
        clear hev he
        go_wp2_with fail
        go_region_with (first
          | (go_at_call 16
             refine HAB.out.mono ?_
             rintro e w2 ⟨A2, c2, nn2, rfl, j2, ⟨A6, n6, c6, j6⟩, j4, jb⟩
             have HQ := Lib.hid (of_errB ⟨j2, ⟨_, _, _, j6⟩, j4, jb⟩ HB.out L HEv.out.1 HEv.out.2)
             have HO : Hid (Own (((w2.setCell ⟨w.heap.size, 0, none⟩ (.int .i64 0)).setCell ⟨w.heap.size, 1, none⟩ (.slice none 0 0)).alloc (.cells #[.int .i64 a, .slice A2 nn2 c2] 33)) w.heap.size 33 [.int .i64 0, .slice none 0 0]) := j4.two.alloc _
             have h40 := j4.cell 0
             have h41 := j4.cell 1
             have f40 := j4.frozen 0
             have f41 := j4.frozen 1
             have q4 := j4.lt
             clear j2 j6 j4 jb)
          | (go_at_call 16
             refine HAA.out.mono ?_
             rintro e w2 ⟨A2, c2, nn2, rfl, j2, ⟨A6, n6, c6, j6⟩, j4, j8, jb⟩
             have HQ := Lib.hid (of_errA ⟨j2, ⟨_, _, _, j6⟩, j4, j8, jb⟩ HB.out L HEv.out.1 HEv.out.2)
             have HO : Hid (Own ((((w2.setCell ⟨wr.heap.size, 0, none⟩ (.int .i64 a)).setCell ⟨wr.heap.size, 1, none⟩ (.slice A2 nn2 c2)).setCell ⟨w.heap.size, 0, none⟩ (.int .i64 0)).setCell ⟨w.heap.size, 1, none⟩ (.slice none 0 0)) w.heap.size 33 [.int .i64 0, .slice none 0 0]) := ((((Kept.refl [wr.heap.size] w2).setCell (.inl (by simp)) _).setCell (.inl (by simp)) _).own j4 (by simp only [List.mem_singleton]; omega)).two
             have h40 := j4.cell 0
             have h41 := j4.cell 1
             have f40 := j4.frozen 0
             have f41 := j4.frozen 1
             have q4 := j4.lt
             have h80 := j8.cell 0
             have h81 := j8.cell 1
             have f80 := j8.frozen 0
             have f81 := j8.frozen 1
             have q8 := j8.lt
             clear j2 j6 j4 j8 jb))
        all_goals
          go_wp2
          refine bodyPost_ret (v := .tuple #[rv3 0 none 0 0, .int .i64 ev]) (by simp [results, Try.results23, go_sem, HO.out.cell 0, HO.out.cell 1]) rfl HQ.out
    · obtain rfl : k = xs.length := by omega
      rw [List.drop_length] at HE HLq
      have hks : Kept [w.heap.size] wr ((wr.setCell ⟨w.heap.size, 0, none⟩ (.int .i64 a)).setCell ⟨w.heap.size, 1, none⟩ (.slice A0 nn c0)) := ((Kept.refl _ wr).setCell (.inl (by simp)) _).setCell (.inl (by simp)) _
      have hO := HO4.out.two (u := .int .i64 a) (v := .slice A0 nn c0)
      have HQ : Hid (ROfPost S w a L n (.returned (.tuple #[rv3 a A0 nn c0, .int .i64 0])) ((wr.setCell ⟨w.heap.size, 0, none⟩ (.int .i64 a)).setCell ⟨w.heap.size, 1, none⟩ (.slice A0 nn c0))) :=
        .inl ⟨HE.out, _, rfl, by rw [HLq.out]; exact HR.out.kept (hks.more (fun j hj => by simp only [List.mem_singleton] at hj; subst hj; simp)) (fun j hj => .inl (by simp [hj])), (HB.out.setCell (by simp) _).setCell (by simp) _⟩
      have HO := Lib.hid hO
      clear hks hO HE HLq HR HO4
      go_wp2
      refine bodyPost_ret (v := .tuple #[rv3 a A0 nn c0, .int .i64 0]) (by simp [results, Try.results23, go_sem, HO.out.cell 0, HO.out.cell 1]) rfl HQ.out

theorem refOf_any (S : List Nat) (a : Int) (A : Option Addr) (c : Nat) (xs : List TV) (w : World) (hS : ∀ k ∈ S, k < w.heap.size) (hl : Lst [] w A xs) (ht : ∀ x ∈ xs, Tok x) (hn : xs.length ≤ maxLen) :
    Calls Try.prog 23 #[.int .i64 a, .slice A xs.length c] w fun e w' => ROfPost S w a (ofL a (lists xs)) (ofE a (lists xs)) e w' := by
  by_cases hb : a < 0 ∨ 6 < a
  · exact refOf_bad S a _ _ w hb
  · exact refOf_ok S a A c xs w hS hl ht hn (by omega) (by omega)
end Go.Proofs.Ytbahmkhnnahddaa
