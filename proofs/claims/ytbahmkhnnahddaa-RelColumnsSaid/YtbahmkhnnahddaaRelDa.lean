/- slices.Delete at a relation's own slice: one tuple fewer. Conditions: at most 2000 tuples. -/
import Derived.Test.YtbahmkhnnahddaaRelX
import Derived.Deep.RegionLaw
namespace Go.Proofs.Ytbahmkhnnahddaa
open Go.RowKit Go.Deep Go.Shelf Go.Lib

set_option maxHeartbeats 4000000 in
set_option maxRecDepth 1000000 in
theorem Delete_cells (b n c i j : Nat) (cs sp : List Value) (w : World) (hi : i < n) (hj : j = i + 1) (hc63 : c ≤ maxLen) (hcl : cs.length = n) (hB : Own w b 35 (cs ++ sp)) (hsp : n + sp.length = c) (h1c : ∀ v ∈ cs, v.oneCell' = true) :
    Calls Try.prog 40 #[.slice (some ⟨b, 0, none⟩) n c, .int .i64 i, .int .i64 j] w fun e w' =>
      e = .returned (.slice (some ⟨b, 0, none⟩) (n - 1) c) ∧ w' = (w.drew.setCells b i (cs.drop j)).setCells b (n - 1) [.slice none 0 0] := by
  unfold maxLen at hc63
  have mixed : Try.prog.follows .mixedOrders = true := by kernel_rfl
  obtain ⟨i0, hi0, hz0, hz1, hzb⟩ := info_parts infoTup
  have hcs : ∀ j v, cs[j]? = some v → w.cell? ⟨b, j, none⟩ = some v := fun j v hj => by
    rw [hB.cell, List.getElem?_append_left (List.getElem?_eq_some_iff.1 hj).1]; exact hj
  have hsome : ∀ j, j < n → (w.cell? ⟨b, j, none⟩).isSome = true := fun j hj => by
    rw [hB.cell, List.getElem?_eq_getElem (by simp; omega)]; rfl
  have hfz : ∀ j, w.frozen? ⟨b, j, none⟩ = false := fun j => hB.frozen j
  obtain ⟨news, hnews⟩ : ∃ news, news = cs.drop j := ⟨_, rfl⟩
  have hlen : news.length = n - j := by rw [hnews]; simp; omega
  obtain ⟨A, hA, hsrc⟩ : ∃ A : Addr, (if c = j then some (⟨b, 0, none⟩ : Addr) else some ⟨b, j, none⟩) = some A ∧ Hid (∀ t u, news[t]? = some u → w.drew.cell? (A.add t) = some u) := by
    by_cases h : c = j
    · refine ⟨⟨b, 0, none⟩, by simp [h], fun t u hu => ?_⟩
      have h0 : news.length = 0 := by rw [hlen]; omega
      rw [List.length_eq_zero_iff.1 h0] at hu
      simp at hu
    · refine ⟨⟨b, j, none⟩, by simp [h], fun t u hu => ?_⟩
      rw [hnews, List.getElem?_drop] at hu
      rw [Addr.add_lit]
      exact hcs (j + t) u hu
  have s1 : Hid (news.length = (n - j) * 1) := by show _ = _; rw [Nat.mul_one]; exact hlen
  have s2 : Hid (∀ u ∈ news, u.oneCell' = true) := fun u hu => by
    rw [hnews] at hu
    exact h1c u (List.mem_of_mem_drop hu)
  have s3 : Hid (∀ t, t < news.length → (w.drew.cell? ⟨b, 0 + i * 1 + t, none⟩).isSome = true ∧ w.drew.frozen? ⟨b, 0 + i * 1 + t, none⟩ = false) := fun t ht => by
    rw [hlen] at ht
    rw [Nat.mul_one, Nat.zero_add]
    exact ⟨hsome _ (by omega), hfz _⟩
  obtain ⟨W1, hW1⟩ : ∃ W1, W1 = w.drew.setCells b (0 + i * 1) news := ⟨_, rfl⟩
  have hO1 : Own W1 b 35 (putL (cs ++ sp) i (cs.drop j)) := by
    rw [hW1, hnews, Nat.mul_one, Nat.zero_add]
    exact hB.drew.sets _ _
  have hpl : (putL (cs ++ sp) i (cs.drop j)).length = c := by
    rw [putL_at _ _ _ (by simp; omega)]
    simp
    omega
  have hn1 : i + (n - j) = n - 1 := by omega
  have hn2 : n - (n - 1) = 1 := by omega
  have hcl2 : ∀ ty cc, (Builtin.clear_ #[31] ty #[.slice (some ⟨b, n - 1, none⟩) 1 cc]).run Try.prog W1 = .ok (.tuple #[]) (W1.setCells b (n - 1) (List.replicate 1 (.slice none 0 0))) :=
    fun ty cc => Lib.run_clear_slice W1 _ _ ty _ Try.underlying31 Try.zeroValue35 rfl rfl b (n - 1) 1 cc (by omega) (fun t ht => by rw [hO1.cell, List.getElem?_eq_getElem (by omega)]; rfl) (fun t ht => hO1.frozen _)
  have hW : Hid (W1 = w.drew.setCells b (0 + i * 1) news) := hW1
  have HN := Lib.hid hnews
  have HJ := Lib.hid hj
  have hic : i ≤ c := by omega
  have hjc : j ≤ c := by omega
  have hjn : j ≤ n := by omega
  have hij : i ≤ j := by omega
  have hne : ¬ ((i : Int) = (j : Int)) := by omega
  have hnc : n ≤ c := by omega
  clear hW1 hO1 hpl hnews hlen hcs hsome hfz hB hj
  go_enter Try.func40, Try.ntmps40
  go_wp2_with fail
  go_region_law_o (refine step_append_room rfl (.tmp 22) (.tmp 25) 31 rfl 35 i0 1 Try.underlying31 hi0 hz1 b 0 i c (by simp [Act.eval, Act.put]) A (n - j) (c - j) news (by simp [Act.eval, Act.put]) s1.out hsrc.out s2.out (by omega) s3.out ?_; rw [← hW.out])
  go_wp2_with fail
  go_ret
  exact ⟨rfl, by rw [hW.out, HN.out, Nat.mul_one, Nat.zero_add]⟩

/-- without x. -/
def delT (L : List (List V3)) (x : List V3) : List (List V3) := L.filter fun y => !decide (cmpT y x = 0)
theorem del_not {L : List (List V3)} {x : List V3} (h : fndT L x = false) : delT L x = L := by
  unfold delT
  rw [List.filter_eq_self]
  intro y hy
  have : cmpT y x ≠ 0 := fun h0 => fnd_not.1 h (by rw [← cmpT_eq h0]; exact hy)
  simpa using this
theorem del_at {L : List (List V3)} (hs : Sor L) {x : List V3} {p : Nat} (hp : L[p]? = some x) : L.take p ++ L.drop (p + 1) = delT L x := by
  have hlt : p < L.length := (List.getElem?_eq_some_iff.1 hp).1
  have hx : L[p] = x := (List.getElem?_eq_some_iff.1 hp).2
  have hL : L = L.take p ++ x :: L.drop (p + 1) := by
    conv => lhs; rw [← List.take_append_drop p L]
    rw [List.drop_eq_getElem_cons hlt, hx]
  have hs' := hs
  rw [hL] at hs'
  obtain ⟨_, h2, h3⟩ := List.pairwise_append.1 hs'
  obtain ⟨h4, _⟩ := List.pairwise_cons.1 h2
  have e1 : (L.take p).filter (fun y => !decide (cmpT y x = 0)) = L.take p := List.filter_eq_self.2 fun y hy => by
    have := h3 y hy x (List.mem_cons_self ..)
    have : cmpT y x ≠ 0 := by omega
    simpa using this
  have e2 : (L.drop (p + 1)).filter (fun y => !decide (cmpT y x = 0)) = L.drop (p + 1) := List.filter_eq_self.2 fun y hy => by
    have := cmpT_lt (h4 y hy)
    have : cmpT y x ≠ 0 := by omega
    simpa using this
  have e3 : delT L x = delT (L.take p ++ x :: L.drop (p + 1)) x := by rw [← hL]
  rw [e3]
  unfold delT
  rw [List.filter_append, List.filter_cons, e1, e2]
  simp [cmpT_self]
theorem Good.del {a : Int} {L : List (List V3)} (h : Good a L) (x : List V3) : Good a (delT L x) := h.filter _

def DelPost (w : World) (ts : List TV) (i : Nat) (G : List Nat) (e : Ending) (w' : World) : Prop :=
  ∃ v', e = .returned v' ∧ Arr w' v' (ts.take i ++ ts.drop (i + 1)) G ∧ Kept G w w'
theorem Delete_any (v : Value) (ts : List TV) (G : List Nat) (i : Nat) (w : World) (ha : Arr w v ts G) (hi : i < ts.length) :
    Calls Try.prog 40 #[v, .int .i64 i, .int .i64 ((i : Int) + 1)] w fun e w' => DelPost w ts i G e w' := by
  rcases ha with ⟨_, rfl, _⟩ | ⟨g, sp, rfl, rfl, h3, h4⟩
  · simp at hi
  · have e1 : (ts.map tval).length = ts.length := by simp
    have hc := Delete_cells g ts.length (ts.length + sp.length) i (i + 1) (ts.map tval) sp w hi rfl h4 e1 h3 rfl (one_tvals ts)
    refine Calls.mono (show Calls Try.prog 40 #[.slice (some ⟨g, 0, none⟩) ts.length (ts.length + sp.length), .int .i64 i, .int .i64 ((i : Int) + 1)] w _ from hc) ?_
    rintro e w' ⟨rfl, rfl⟩
    have hlen : (ts.take i ++ ts.drop (i + 1)).length = ts.length - 1 := by simp; omega
    refine ⟨_, rfl, .inr ⟨g, .slice none 0 0 :: sp, ?_, rfl, ?_, ?_⟩, ?_⟩
    · rw [hlen]
      congr 1
      simp only [List.length_cons]
      omega
    · have hs : (ts.map tval ++ sp).length = ts.length + sp.length := by simp
      have h5 := (h3.drew.sets ((ts.map tval).drop (i + 1)) i).sets [.slice none 0 0] (ts.length - 1)
      rw [putL_at ((ts.map tval).drop (i + 1)) i (ts.map tval ++ sp) (by rw [hs, List.length_drop, e1]; omega)] at h5
      have hd : ((ts.map tval).drop (i + 1)).length = ts.length - (i + 1) := by simp
      have ht : ((ts.map tval ++ sp).take i).length = i := by simp; omega
      rw [hd] at h5
      have hl2 : ((ts.map tval ++ sp).take i ++ (ts.map tval).drop (i + 1)).length = ts.length - 1 := by rw [List.length_append, ht, hd]; omega
      have e2 : i + (ts.length - (i + 1)) = ts.length - 1 := by omega
      rw [e2] at h5
      have hrest : (ts.map tval ++ sp).drop (ts.length - 1) = (ts.map tval)[ts.length - 1]'(by omega) :: sp := by
        rw [List.drop_append_of_le_length (by omega), List.drop_eq_getElem_cons (by omega), List.drop_eq_nil_of_le (by omega)]
        rfl
      rw [hrest] at h5
      simp only [putL] at h5
      rw [List.set_append_right _ _ (by omega), hl2, Nat.sub_self, List.set_cons_zero] at h5
      rw [List.take_append_of_le_length (by omega)] at h5
      simpa using h5
    · rw [hlen]
      simp only [List.length_cons]
      omega
    · exact Kept.sets (.inl (by simp)) _ _ (Kept.sets (.inl (by simp)) _ _ (Kept.refl [g] w).drew)

def DropPost (w : World) (b : Nat) (a : Int) (ts : List TV) (S : List Nat) (x : TV) (e : Ending) (w' : World) : Prop :=
  ∃ ts' S', e = .returned (.bool (fndT (lists ts) x.2.2)) ∧ RelAt w' b a ts' S' ∧ lists ts' = delT (lists ts) x.2.2 ∧ Kept S w w' ∧ Sub S' S w.heap.size

set_option maxRecDepth 100000 in
set_option maxHeartbeats 1000000 in
theorem Drop_any (b : Nat) (a : Int) (ts : List TV) (S : List Nat) (x : TV) (w : World) (h : RelAt w b a ts S) (hg : Good a (lists ts)) (hx : Row w x.1 x.2.2) (hxl : x.2.2.length ≤ maxLen) :
    Calls Try.prog 12 #[rp b, tval x] w fun e w' => DropPost w b a ts S x e w' := by
  obtain ⟨v, G, rfl, ho, ha, hbG, hrows⟩ := id h
  have HF := Lib.hid (find_any b a ts _ x w h hg hx hxl)
  have HR := Lib.hid h
  have HA := Lib.hid ha
  have HBG := Lib.hid hbG
  have HRows := Lib.hid hrows
  have HO := Lib.hid ho
  have h1 := ho.cell1
  have q0 := ho.lt
  by_cases hq : fndT (lists ts) x.2.2 = true
  · obtain ⟨hlt, hat⟩ := (sor_found hg.2.1 x.2.2).2 (fnd_iff.1 hq)
    have HDel := Lib.hid (del_at hg.2.1 hat)
    have hlt' : posT (lists ts) x.2.2 < ts.length := by simpa using hlt
    have h20 := hg.len
    rw [hq] at HF
    have HQ1 := Lib.hid hq
    clear h hg hx hq hrows hbG hat hlt
    obtain ⟨p, hp⟩ : ∃ p, posT (lists ts) x.2.2 = p := ⟨_, rfl⟩
    rw [hp] at HF HDel hlt'
    have HPl := Lib.hid hlt'
    have HD := Lib.hid (fun (W : World) (hb : Below w.heap.size w W) => Delete_any v ts G p W (ha.kept (Kept.of [] hb) (fun _ _ h => by cases h)) hlt')
    obtain ⟨A0, c0, rfl⟩ := ha.val
    clear ha ho hp
    go_enter Try.func12, Try.ntmps12
    go_wp2_with fail
    refine HF.out.mono ?_
    rintro e w1 ⟨rfl, b1⟩
    have B1 := Lib.hid b1
    have h1 := (b1.cell (p := ⟨b, 1, none⟩) q0).trans h1
    have q1 : b < w1.heap.size := Nat.lt_of_lt_of_le q0 b1.size
    clear b1
    go_wp2_with fail
    refine (HD.out _ B1.out).mono ?_
    rintro e w2 ⟨v', rfl, ha2, k2⟩
    obtain ⟨A2, n2, c2, rfl⟩ := ha2.val3
    have O2 := k2.own ((Kept.of [] B1.out).own HO.out List.not_mem_nil) HBG.out
    have h14 := O2.cell1
    have f14 := O2.frozen 1
    have q4 := O2.lt
    have HQ : Hid (DropPost w b a ts (b :: G) x (.returned (.bool true)) (w2.setCell ⟨b, 1, none⟩ (.slice A2 n2 c2))) := by
      have k1 : Kept (b :: G) w w1 := Kept.of _ B1.out
      have k12 : Kept (b :: G) w w2 := k1.trans k2 (fun k hk => .inl (by simp [hk]))
      have k3 : Kept (b :: G) w (w2.setCell ⟨b, 1, none⟩ (.slice A2 n2 c2)) := k12.setCell (.inl (by simp)) _
      refine ⟨_, b :: G, by rw [HQ1.out], ⟨_, G, rfl, O2.set 1 _, ha2.kept ((Kept.refl [b] w2).setCell (.inl (by simp)) _) (fun g hg h => ?_), HBG.out, fun t ht => ?_⟩, ?_, k3, Sub.refl _ _⟩
      · simp only [List.mem_singleton] at h
        subst h
        exact HBG.out hg
      · have hmem : t ∈ ts := by
          rcases List.mem_append.1 ht with h | h
          · exact List.mem_of_mem_take h
          · exact List.mem_of_mem_drop h
        exact ⟨((HRows.out t hmem).1).kept k3 (Sub.refl _ _), (HRows.out t hmem).2⟩
      · rw [← HDel.out]
        simp
    clear ha2 k2 O2
    go_wp2
    go_ret
    exact HQ.out
  · have hq : fndT (lists ts) x.2.2 = false := by simpa using hq
    rw [hq] at HF
    have HQ : Hid (∀ w', Below w.heap.size w w' → DropPost w b a ts (b :: G) x (.returned (.bool false)) w') := fun w' hb => ⟨ts, _, by rw [hq], HR.out.below hb, (del_not hq).symm, Kept.of _ hb, Sub.refl _ _⟩
    clear h hg hx hq hrows hbG ha ho
    generalize posT (lists ts) x.2.2 = p at HF
    go_enter Try.func12, Try.ntmps12
    go_wp2_with fail
    refine HF.out.mono ?_
    rintro e w1 ⟨rfl, b1⟩
    go_wp2
    go_ret
    exact HQ.out _ b1
end Go.Proofs.Ytbahmkhnnahddaa
