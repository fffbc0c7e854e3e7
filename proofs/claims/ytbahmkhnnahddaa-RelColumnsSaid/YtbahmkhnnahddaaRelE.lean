/- slices.Insert in one word; find and Has of a relation. Conditions: at most 2000 tuples. -/
import Derived.Test.YtbahmkhnnahddaaRelD
namespace Go.Proofs.Ytbahmkhnnahddaa
open Go.RowKit Go.Deep Go.Shelf Go.Lib

theorem Arr.owns {w : World} {v : Value} {ts : List TV} {G : List Nat} (h : Arr w v ts G) : w.ownsRow 0 35 1 v ts.length (ts.map tval) := by
  refine ⟨by simp, ?_⟩
  rcases h with ⟨rfl, rfl, _⟩ | ⟨g, sp, rfl, _, h3, h4⟩
  · exact .inl ⟨rfl, rfl⟩
  · refine .inr ⟨g, _, _, rfl, Nat.zero_le _, h3, Nat.le_add_right _ _, h4, by simp, ?_⟩
    simp
theorem Arr.of_owns {w : World} {g n cap : Nat} {ts : List TV} (h : w.ownsRow 0 35 1 (.slice (some ⟨g, 0, none⟩) n cap) n (ts.map tval)) : Arr w (.slice (some ⟨g, 0, none⟩) n cap) ts [g] := by
  obtain ⟨h1, ⟨h2, _⟩ | ⟨g', cap', cur, h2, _, h3, h4, h5, h6, h7⟩⟩ := h
  · cases h2
  · injection h2 with a1 _ a3
    injection a1 with a1
    injection a1 with a1
    subst a1 a3
    have hn : n = ts.length := by simpa using h1.symm
    subst hn
    have hl : cur.toList.length = cap := by simpa using h6
    refine .inr ⟨g, cur.toList.drop ts.length, ?_, rfl, ?_, ?_⟩
    · congr 1
      simp only [List.length_drop]
      omega
    · rw [← h7, Nat.mul_one, List.take_append_drop]
      exact h3
    · simp only [List.length_drop]
      omega
theorem Arr.block {w : World} {v : Value} {ts : List TV} {G : List Nat} (h : Arr w v ts G) : ∀ k, v.ownBlock = some k → k ∈ G := by
  intro k hk
  rcases h with ⟨rfl, _⟩ | ⟨g, sp, rfl, rfl, _⟩
  · cases hk
  · injection hk with hk
    subst hk
    simp
theorem Kept.grown {S : List Nat} {w w' : World} {row : Option Nat} (h : w.grownBy w' row) (hr : ∀ k, row = some k → k ∈ S) : Kept S w w' :=
  ⟨h.os, h.tape, h.output, h.size, fun k hk hn => h.block k hk (fun e => hn (hr k e.symm))⟩
theorem one_tvals (ts : List TV) : ∀ v ∈ ts.map tval, v.oneCell' = true := by
  intro v hv
  obtain ⟨t, _, rfl⟩ := List.mem_map.1 hv
  rfl

def InsPost (w : World) (ts : List TV) (x : TV) (i : Nat) (G : List Nat) (e : Ending) (w' : World) : Prop :=
  ∃ v' G', e = .returned v' ∧ Arr w' v' (ts.take i ++ x :: ts.drop i) G' ∧ Kept G w w' ∧ Sub G' G w.heap.size

set_option maxHeartbeats 1000000 in
set_option maxRecDepth 100000 in
theorem Insert_end (v : Value) (ts : List TV) (G : List Nat) (vb : Nat) (x : TV) (w : World) (ha : Arr w v ts G) (hn : ts.length ≤ 2000) (hV : Own w vb 35 [tval x]) (A : Option Addr) (c : Nat) (hv : v = .slice A ts.length c) :
    Calls Try.prog 43 #[v, .int .i64 ts.length, .slice (some ⟨vb, 0, none⟩) 1 1] w fun e w' => InsPost w ts x ts.length G e w' := by
  have HB := Lib.hid ha.block
  have HO := Lib.hid ha.owns
  have hnews : ∀ j u, [tval x][j]? = some u → w.cell? ((⟨vb, 0, none⟩ : Addr).add j) = some u := fun j u hj => by rw [Addr.add_lit, Nat.zero_add, hV.cell]; exact hj
  have HN := Lib.hid hnews
  have HC := Lib.hid (show ts.length ≤ c by rcases ha with ⟨h, h1, _⟩ | ⟨g, sp, h, _⟩ <;> (rw [hv] at h; injection h with _ _ h; first | omega | (subst h1; simp)))
  obtain ⟨i0, hi0, hz0, hzs, hzb⟩ := info_parts infoTup
  subst hv
  have hlc := HC.out
  clear hnews hV ha
  rcases Nat.lt_or_eq_of_le hlc with hce | hce
  · have hb4 : ¬ (c = ts.length) := by omega
    go_enter Try.func43, Try.ntmps43
    go_wp2_with (at_builtin; refine wpList_append_lies _ rfl _ _ 31 rfl 0 35 i0 _ 1 24 Try.underlying31 hi0 hz0 hzs hzb rfl (by decide) (.slice A ts.length c) ts.length (ts.map tval) rfl HO.out ⟨vb, 0, none⟩ 1 1 [tval x] rfl rfl HN.out (by simp [Value.oneCell']) (by omega) ?b1 ?b2 (Nat.zero_le _) w.heap.size rfl ?_)
    case b1 => unfold maxLen; omega
    case b2 => omega
    intro g cap w1 ho hg hat hlt
    have HQ : Hid (InsPost w ts x ts.length G (.returned (.slice (some ⟨g, 0, none⟩) (ts.length + 1) cap)) w1) := by
      refine ⟨_, [g], rfl, ?_, Kept.grown hg HB.out, ?_⟩
      · have e : ts.take ts.length ++ x :: ts.drop ts.length = ts ++ [x] := by simp
        rw [e]
        refine Arr.of_owns ?_
        rw [List.map_append]
        exact ho
      · intro k hk
        simp only [List.mem_singleton] at hk
        subst hk
        rcases hat with h | h
        · exact .inl (HB.out _ h)
        · exact .inr (by omega)
    clear hi0 hz0 hzs hzb ho hg hat hlt
    go_wp2
    go_ret
    exact HQ.out
  · subst hce
    go_enter Try.func43, Try.ntmps43
    go_wp2_with (at_builtin; refine wpList_append_lies _ rfl _ _ 31 rfl 0 35 i0 _ 1 24 Try.underlying31 hi0 hz0 hzs hzb rfl (by decide) (.slice A ts.length ts.length) ts.length (ts.map tval) rfl HO.out ⟨vb, 0, none⟩ 1 1 [tval x] rfl rfl HN.out (by simp [Value.oneCell']) (by omega) ?b1 ?b2 (Nat.zero_le _) w.heap.size rfl ?_)
    case b1 => unfold maxLen; omega
    case b2 => omega
    intro g cap w1 ho hg hat hlt
    have HQ : Hid (InsPost w ts x ts.length G (.returned (.slice (some ⟨g, 0, none⟩) (ts.length + 1) cap)) w1) := by
      refine ⟨_, [g], rfl, ?_, Kept.grown hg HB.out, ?_⟩
      · have e : ts.take ts.length ++ x :: ts.drop ts.length = ts ++ [x] := by simp
        rw [e]
        refine Arr.of_owns ?_
        rw [List.map_append]
        exact ho
      · intro k hk
        simp only [List.mem_singleton] at hk
        subst hk
        rcases hat with h | h
        · exact .inl (HB.out _ h)
        · exact .inr (by omega)
    clear hi0 hz0 hzs hzb ho hg hat hlt
    go_wp2
    go_ret
    exact HQ.out

theorem zero_len (k : Nat) : (Builtin.zeroCells (Value.slice none 0 0).cells k).toList.length = k := by simp [Builtin.zeroCells, Value.cells]

theorem Insert_any (v : Value) (ts : List TV) (G : List Nat) (i vb : Nat) (x : TV) (w : World) (ha : Arr w v ts G) (hi : i ≤ ts.length) (hn : ts.length ≤ 2000) (hV : Own w vb 35 [tval x]) (hvb : vb ∉ G) :
    Calls Try.prog 43 #[v, .int .i64 i, .slice (some ⟨vb, 0, none⟩) 1 1] w fun e w' => InsPost w ts x i G e w' := by
  rcases Nat.lt_or_eq_of_le hi with hlt | rfl
  · have ha' := ha
    rcases ha with ⟨_, rfl, _⟩ | ⟨g, sp, rfl, rfl, h3, h4⟩
    · simp at hlt
    · have e1 : (ts.map tval).length = ts.length := by simp
      have hgv : vb ≠ g := by simpa using hvb
      have hdrop : (ts.map tval).drop i = (ts.drop i).map tval := by rw [List.map_drop]
      have htake : (ts.map tval).take i = (ts.take i).map tval := by rw [List.map_take]
      have hlen : (ts.take i ++ x :: ts.drop i).length = ts.length + 1 := by simp; omega
      by_cases hroom : ts.length + 1 ≤ ts.length + sp.length
      · refine (Insert_shift g ts.length (ts.length + sp.length) i vb (tval x) (ts.map tval) sp w hlt hroom h4 hgv e1 h3 rfl hV (one_tvals ts) rfl).mono ?_
        rintro e w' ⟨rfl, rfl⟩
        refine ⟨_, [g], rfl, .inr ⟨g, sp.drop 1, ?_, rfl, ?_, ?_⟩, ?_, fun k hk => .inl hk⟩
        · rw [hlen]
          congr 1
          simp only [List.length_drop]
          omega
        · have h5 := (h3.drew.sets ((ts.map tval).drop i) (i + 1)).sets [tval x] i
          have hs : (ts.map tval ++ sp).length = ts.length + sp.length := by simp
          rw [putL_at ((ts.map tval).drop i) (i + 1) (ts.map tval ++ sp) (by rw [hs, List.length_drop, e1]; omega)] at h5
          have e2 : i + 1 + ((ts.map tval).drop i).length = ts.length + 1 := by simp; omega
          rw [e2] at h5
          have e3 : (ts.map tval ++ sp).drop (ts.length + 1) = sp.drop 1 := by
            rw [List.drop_append, List.drop_eq_nil_of_le (by simp), List.nil_append]
            congr 1
            simp
          rw [e3] at h5
          have e4 : (ts.map tval ++ sp).take (i + 1) = (ts.map tval).take i ++ [(ts.map tval)[i]'(by simp; omega)] := by
            rw [List.take_append_of_le_length (by simp; omega), List.take_succ_eq_append_getElem (by simp; omega)]
          rw [e4] at h5
          simp only [putL] at h5
          rw [List.append_assoc, List.append_assoc, List.set_append_right _ _ (by simp; omega)] at h5
          have e5 : i - ((ts.map tval).take i).length = 0 := by simp; omega
          rw [e5] at h5
          simp only [List.singleton_append, List.set_cons_zero] at h5
          rw [hdrop, htake] at h5
          simpa using h5
        · rw [hlen]
          simp only [List.length_drop]
          omega
        · exact Kept.sets (.inl (by simp)) _ _ (Kept.sets (.inl (by simp)) _ _ (Kept.refl [g] w).drew)
      · have hsp : sp.length = 0 := by omega
        refine (Insert_grow g ts.length (ts.length + sp.length) i vb (tval x) (ts.map tval) sp w hlt (by omega) (by omega) hn e1 h3 hV (one_tvals ts) rfl).mono ?_
        rintro e w' ⟨rfl, rfl⟩
        have hG := grownCap_ge w (ts.length + 1) (ts.length + sp.length) 35
        have hG2 := grownCap_le_maxLen w (ts.length + 1) (ts.length + sp.length) 35 (by unfold maxLen; omega)
        generalize grownCap w (ts.length + 1) (ts.length + sp.length) 35 = K at hG hG2
        refine ⟨_, [w.heap.size], rfl, .inr ⟨w.heap.size, (Builtin.zeroCells (Value.slice none 0 0).cells (K - (ts.length + 1))).toList, ?_, rfl, ?_, ?_⟩, ?_, fun k hk => .inr (by simp only [List.mem_singleton] at hk; omega)⟩
        · rw [hlen, zero_len]
          congr 1
          omega
        · have h0 : Own (w.alloc (.cells (((ts.map tval).take i).toArray ++ Builtin.zeroCells (Value.slice none 0 0).cells (ts.length + 1 - i) ++ Builtin.zeroCells (Value.slice none 0 0).cells (K - (ts.length + 1))) 35)).drew w.heap.size 35 ((ts.map tval).take i ++ (Builtin.zeroCells (Value.slice none 0 0).cells (ts.length + 1 - i)).toList ++ (Builtin.zeroCells (Value.slice none 0 0).cells (K - (ts.length + 1))).toList) := by
            have := heap_alloc_new w (.cells (((ts.map tval).take i).toArray ++ Builtin.zeroCells (Value.slice none 0 0).cells (ts.length + 1 - i) ++ Builtin.zeroCells (Value.slice none 0 0).cells (K - (ts.length + 1))) 35)
            unfold Own
            refine Eq.trans this ?_
            congr 2
            apply Array.ext'
            simp
          have hz1 := zero_len (ts.length + 1 - i)
          have hz2 := zero_len (K - (ts.length + 1))
          generalize (Builtin.zeroCells (Value.slice none 0 0).cells (ts.length + 1 - i)).toList = z1 at h0 hz1
          generalize hzz : (Builtin.zeroCells (Value.slice none 0 0).cells (K - (ts.length + 1))).toList = z2 at h0 hz2
          have h5 := ((h0.sets [tval x] i).drew).sets ((ts.map tval).drop i) (i + 1)
          have hti : ((ts.map tval).take i).length = i := by simp; omega
          have hdi : ((ts.map tval).drop i).length = ts.length - i := by simp
          rw [putL_at [tval x] i _ (by simp only [List.length_append, hti, hz1, hz2, List.length_singleton]; omega)] at h5
          rw [putL_at ((ts.map tval).drop i) (i + 1) _ (by simp only [List.length_append, List.length_take, List.length_drop, hti, hz1, hz2, hdi, List.length_singleton]; omega)] at h5
          rw [hdi] at h5
          have e3 : ((ts.map tval).take i ++ z1 ++ z2).take i = (ts.map tval).take i := by rw [List.append_assoc, List.take_append_of_le_length (by omega), List.take_of_length_le (by omega)]
          rw [e3] at h5
          have e4 : ((ts.map tval).take i ++ [tval x] ++ ((ts.map tval).take i ++ z1 ++ z2).drop (i + [tval x].length)).take (i + 1) = (ts.map tval).take i ++ [tval x] := by
            rw [List.take_append_of_le_length (by simp only [List.length_append, hti, List.length_singleton]; omega), List.take_of_length_le (by simp only [List.length_append, hti, List.length_singleton]; omega)]
          rw [e4] at h5
          have e6 : ((ts.map tval).take i ++ [tval x] ++ ((ts.map tval).take i ++ z1 ++ z2).drop (i + [tval x].length)).drop (i + 1 + (ts.length - i)) = z2 := by
            rw [List.drop_append, List.drop_eq_nil_of_le (by simp only [List.length_append, hti, List.length_singleton]; omega), List.nil_append, List.drop_drop]
            have e7 : i + [tval x].length + (i + 1 + (ts.length - i) - ((ts.map tval).take i ++ [tval x]).length) = ((ts.map tval).take i ++ z1).length := by
              simp only [List.length_append, hti, List.length_singleton, hz1]
              omega
            rw [e7, List.drop_left]
          rw [e6, hdrop, htake] at h5
          simpa using h5
        · rw [hlen, zero_len]
          omega
        · exact Kept.sets (.inr (Nat.le_refl _)) _ _ (Kept.sets (.inr (Nat.le_refl _)) _ _ ((Kept.refl [g] w).alloc _).drew).drew
  · obtain ⟨A, c, hv⟩ : ∃ A c, v = .slice A ts.length c := by
      rcases ha with ⟨rfl, rfl, _⟩ | ⟨g, sp, rfl, _⟩
      · exact ⟨none, 0, rfl⟩
      · exact ⟨_, _, rfl⟩
    exact Insert_end v ts G vb x w ha hn hV A c hv
end Go.Proofs.Ytbahmkhnnahddaa
