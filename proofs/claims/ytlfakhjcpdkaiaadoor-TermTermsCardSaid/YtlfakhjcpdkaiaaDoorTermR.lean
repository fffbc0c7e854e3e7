/- The variables of literals and rules. Conditions: of at most 30,000 nodes. -/
import Derived.Test.YtlfakhjcpdkaiaaDoorTermP
import Derived.Test.YtlfakhjcpdkaiaaDoorTermQ
import Derived.Test.YtlfakhjcpdkaiaaDoorTermV
set_option linter.unusedVariables false
set_option linter.unusedSimpArgs false
namespace Go.Proofs.YtlfakhjcpdkaiaaDoor
open Go.RowKit Go.Deep Go.Shelf

theorem Rg.oks {w : World} {A : Option Addr} {l : List TTm} (h : Rg 4 TmC w A l) : ∀ t ∈ l, okTm t := by
  intro t ht
  obtain ⟨i, hi, rfl⟩ := List.getElem_of_mem ht
  obtain ⟨b, o, _, _, hc⟩ := h.at_ hi
  exact hc.2.2.2.2
theorem LtV.oks {w : World} {x : TLt} {A L R : Option Addr} (h : LtV w x A L R) : ∀ t ∈ termsLt x, okTm t := by
  intro t ht
  unfold termsLt at ht
  rcases List.mem_append.1 ht with ht | ht
  · exact h.am.row.oks t ht
  · rcases List.mem_append.1 ht with ht | ht
    · exact okE_terms _ h.left.okE t ht
    · exact okE_terms _ h.right.okE t ht
theorem OwnS.lower {w w1 : World} {L : List ByteArray} {e : Ending} {w' : World} (h : OwnS w1 L e w') (hb : Below w.heap.size w w1) : OwnS w L e w' := by
  obtain ⟨A, c, h1, h2, h3, h4⟩ := h
  exact ⟨A, c, h1, own_lower h2 hb.size, h3, hb.trans (h4.mono hb.size)⟩
set_option maxRecDepth 100000 in
set_option maxHeartbeats 1000000 in
theorem In_any (x : TLt) (A : Option Addr) (c : Nat) (L : Option Addr) (d : Nat) (R : Option Addr) (f : Nat) (w : World) (hV : LtV w x A L R) (hsz : cntLt x ≤ 30000) :
    Calls Tryd.prog 17 #[ltV x A c L d R f] w (OwnS w (names [] (termsLt x))) := by
  have hb0 : Below w.heap.size w (w.alloc (.cells #[.int .i64 x.kind, .string x.atom.rel, .slice A x.atom.args.length c, .int .i64 x.op, .int .i64 x.left.op, .string x.left.t.v, .int .i64 x.left.t.k, .int .i64 x.left.t.n, .string x.left.t.s, .slice L x.left.kids.length d, .int .i64 x.right.op, .string x.right.t.v, .int .i64 x.right.t.k, .int .i64 x.right.t.n, .string x.right.t.s, .slice R x.right.kids.length f, .int .i64 x.pos] 63)) := (Below.refl _ _).alloc (Nat.le_refl _) _
  have C := Lib.hid (ltTerms_any x A c L d R f _ (hV.below hb0) hsz)
  have HOk := Lib.hid hV.oks
  have HLn := Lib.hid (termsLt_len x)
  have HB0 := Lib.hid hb0
  unfold ltV at C ⊢
  clear hV hb0
  go_enter Tryd.func17, Tryd.ntmps17
  go_wp2_with (refine wpList_load_row (o := ⟨some 3, _, _, _, _, _⟩) rfl 63 _ rfl w.heap.size rfl 63 #[.int .i64 x.kind, .string x.atom.rel, .slice A x.atom.args.length c, .int .i64 x.op, .int .i64 x.left.op, .string x.left.t.v, .int .i64 x.left.t.k, .int .i64 x.left.t.n, .string x.left.t.s, .slice L x.left.kids.length d, .int .i64 x.right.op, .string x.right.t.v, .int .i64 x.right.t.k, .int .i64 x.right.t.n, .string x.right.t.s, .slice R x.right.kids.length f, .int .i64 x.pos] (0, 0) _ (heap_alloc_new _ _) Tryd.underlying63 rfl infoLit ?_)
  refine C.out.mono ?_
  rintro e w1 ⟨T, tc, rfl, ho, hn, hb⟩
  have HB1 : Hid (Below w.heap.size w w1) := HB0.out.trans (hb.mono HB0.out.size)
  have C2 := Lib.hid (once_any T tc (termsLt x) w1 (Rg.own ho HOk.out (Nat.le_trans HLn.out (by omega))) (Nat.le_trans HLn.out (by omega)))
  clear ho hn hb
  go_wp2_with fail
  refine C2.out.mono ?_
  rintro e w2 ⟨T2, c2, rfl, ho2, hn2, hb2⟩
  have HF : Hid (OwnS w (names [] (termsLt x)) (.returned (.slice T2 (names [] (termsLt x)).length c2)) w2) := OwnS.lower ⟨T2, c2, rfl, ho2, hn2, hb2⟩ HB1.out
  clear ho2 hn2 hb2
  go_wp2_with fail
  go_ret
  exact HF.out
set_option maxRecDepth 100000 in
set_option maxHeartbeats 2000000 in
theorem Vars_any (r : TRu) (A : Option Addr) (c : Nat) (B : Option Addr) (d : Nat) (w : World) (hV : RuV w r A B) (hsz : cntRu r ≤ 30000) :
    Calls Tryd.prog 15 #[ruV r A c B d] w (OwnS w (names [] (termsRu r))) := by
  have hO : Own (w.alloc (.cells #[.string r.head.rel, .slice A r.head.args.length c, .int .i64 r.agg, .int .i64 r.col, .slice B r.body.length d, .int .i64 r.pos] 56)) w.heap.size 56
    [.string r.head.rel, .slice A r.head.args.length c, .int .i64 r.agg, .int .i64 r.col, .slice B r.body.length d, .int .i64 r.pos] := heap_alloc_new _ _
  have hb0 : Below w.heap.size w (w.alloc (.cells #[.string r.head.rel, .slice A r.head.args.length c, .int .i64 r.agg, .int .i64 r.col, .slice B r.body.length d, .int .i64 r.pos] 56)) := (Below.refl _ _).alloc (Nat.le_refl _) _
  have hal : r.head.args.length ≤ 30000 := by unfold cntRu at hsz; omega
  have C1 := Lib.hid (Clone_any A c r.head.args _ _ (hV.below hb0).am.row (by omega) (Below.refl _ _))
  have hlen := hV.row.1
  have HX : Hid (∀ j (h : j < r.body.length), LtX w B j fun V => (∀ W, Below w.heap.size w W → Calls Tryd.prog 32 #[V] W (OwnT W 26 (termsLt r.body[j]))) ∧ ∀ t ∈ termsLt r.body[j], okTm t) := fun j h =>
    lt_x hV.row h fun AA ac L d R f hy => ⟨fun W hb => ltTerms_any _ AA ac L d R f W (hy.below hb) (by have := cntB_mem (List.getElem_mem h); unfold cntRu at hsz; omega), hy.oks⟩
  have HOk0 := Lib.hid hV.am.row.oks
  have HOkB : Hid (∀ t ∈ termsRu r, okTm t) := fun t ht => by
    unfold termsRu at ht
    rcases List.mem_append.1 ht with ht | ht
    · exact hV.am.row.oks t ht
    · unfold termsB at ht
      obtain ⟨x, hx, ht⟩ := List.mem_flatMap.1 ht
      obtain ⟨i, hi, rfl⟩ := List.getElem_of_mem hx
      obtain ⟨b, o, _, _, hc⟩ := hV.row.at_ hi
      obtain ⟨_, _, _, _, _, _, _, hy⟩ := hc.open_
      exact hy.oks t ht
  have HLn := Lib.hid (Nat.le_trans (termsRu_len r) hsz)
  have HLB : Hid (∀ j, (termsB (r.body.take j)).length ≤ (termsB r.body).length) := fun j => by
    have h : termsB r.body = termsB (r.body.take j) ++ termsB (r.body.drop j) := by unfold termsB; rw [← List.flatMap_append, List.take_append_drop]
    rw [h, List.length_append]
    omega
  have hLt : (r.head.args ++ termsB r.body).length ≤ 30000 := HLn.out
  rw [List.length_append] at hLt
  have HB0 := Lib.hid hb0
  have HO := Lib.hid hO
  unfold ruV
  clear hV hb0 hO hsz
  go_enter Tryd.func15, Tryd.ntmps15
  go_wp2_with fail
  refine C1.out.mono ?_
  rintro e w1 ⟨T, tc, rfl, ho, hn, hb⟩
  have HB1 : Hid (Below w.heap.size w w1) := HB0.out.trans (hb.mono HB0.out.size)
  have HT1 : Hid (w1.ownsRow w.heap.size 26 4 (.slice T r.head.args.length tc) r.head.args.length (flatM r.head.args)) := own_lower ho HB0.out.size
  have HN1 := Lib.hid hn
  have c4 := (HO.out.below hb).cell 4
  have q1 := (HO.out.below hb).lt
  simp only [List.getElem?_cons_zero, List.getElem?_cons_succ] at c4
  clear ho hn hb
  go_wp2_with fail
  clear c4 q1
  go_loopw [3, 13] (fun v i wr => ∃ (j : Nat) (Aj : Option Addr) (cj : Nat), j ≤ r.body.length ∧ i = .int .i64 j ∧ v = .slice Aj (r.head.args ++ termsB (r.body.take j)).length cj ∧ Hid (wr.ownsRow w.heap.size 26 4 (.slice Aj (r.head.args ++ termsB (r.body.take j)).length cj) (r.head.args ++ termsB (r.body.take j)).length (flatM (r.head.args ++ termsB (r.body.take j)))) ∧
    Hid (Aj = none → cj = 0) ∧ Hid (Below w.heap.size w wr)) (fun _ i _ => r.body.length - (intOf i).toNat)
  case atStart =>
    refine ⟨0, T, tc, Nat.zero_le _, rfl, ?_, ?_, HN1, HB1⟩
    · simp [termsB]
    · have e0 : r.head.args ++ termsB (r.body.take 0) = r.head.args := by simp [termsB]
      rw [e0]
      exact HT1
  case round =>
    obtain ⟨j, Aj, cj, hj, rfl, rfl, HOj, HNj, HB⟩ := hrel
    by_cases hlt : j < r.body.length
    · obtain ⟨b, o, k0, k3, k4, k6, k7, k10, k12, k13, k16, s1, s5, s8, s11, s14, A2, A9, A15, n2, m2, n9, m9, n15, m15, rfl, hbw, ⟨c0, c1, c2, c3, c4, c5, c6, c7, c8, c9, c10, c11, c12, c13, c14, c15, c16⟩, hcall⟩ := HX.out j hlt
      obtain ⟨hcall, hoks⟩ := hcall
      have c0 := (HB.out.cell (p := ⟨b, o + j * 17, none⟩) hbw).trans c0
      have c1 := (HB.out.cell (p := ⟨b, o + j * 17 + 1, none⟩) hbw).trans c1
      have c2 := (HB.out.cell (p := ⟨b, o + j * 17 + 2, none⟩) hbw).trans c2
      have c3 := (HB.out.cell (p := ⟨b, o + j * 17 + 3, none⟩) hbw).trans c3
      have c4 := (HB.out.cell (p := ⟨b, o + j * 17 + 4, none⟩) hbw).trans c4
      have c5 := (HB.out.cell (p := ⟨b, o + j * 17 + 5, none⟩) hbw).trans c5
      have c6 := (HB.out.cell (p := ⟨b, o + j * 17 + 6, none⟩) hbw).trans c6
      have c7 := (HB.out.cell (p := ⟨b, o + j * 17 + 7, none⟩) hbw).trans c7
      have c8 := (HB.out.cell (p := ⟨b, o + j * 17 + 8, none⟩) hbw).trans c8
      have c9 := (HB.out.cell (p := ⟨b, o + j * 17 + 9, none⟩) hbw).trans c9
      have c10 := (HB.out.cell (p := ⟨b, o + j * 17 + 10, none⟩) hbw).trans c10
      have c11 := (HB.out.cell (p := ⟨b, o + j * 17 + 11, none⟩) hbw).trans c11
      have c12 := (HB.out.cell (p := ⟨b, o + j * 17 + 12, none⟩) hbw).trans c12
      have c13 := (HB.out.cell (p := ⟨b, o + j * 17 + 13, none⟩) hbw).trans c13
      have c14 := (HB.out.cell (p := ⟨b, o + j * 17 + 14, none⟩) hbw).trans c14
      have c15 := (HB.out.cell (p := ⟨b, o + j * 17 + 15, none⟩) hbw).trans c15
      have c16 := (HB.out.cell (p := ⟨b, o + j * 17 + 16, none⟩) hbw).trans c16
      have HCS : Hid (∀ (i : Nat) v, [.int .i64 k0, .string s1, .slice A2 n2 m2, .int .i64 k3, .int .i64 k4, .string s5, .int .i64 k6, .int .i64 k7, .string s8, .slice A9 n9 m9, .int .i64 k10, .string s11, .int .i64 k12, .int .i64 k13, .string s14, .slice A15 n15 m15, .int .i64 k16][i]? = some v → wr.cell? ⟨b, o + j * 17 + i, none⟩ = some v) := fun i v hv => by
        match i, hv with
        | 0, hv => cases hv; exact c0
        | 1, hv => cases hv; exact c1
        | 2, hv => cases hv; exact c2
        | 3, hv => cases hv; exact c3
        | 4, hv => cases hv; exact c4
        | 5, hv => cases hv; exact c5
        | 6, hv => cases hv; exact c6
        | 7, hv => cases hv; exact c7
        | 8, hv => cases hv; exact c8
        | 9, hv => cases hv; exact c9
        | 10, hv => cases hv; exact c10
        | 11, hv => cases hv; exact c11
        | 12, hv => cases hv; exact c12
        | 13, hv => cases hv; exact c13
        | 14, hv => cases hv; exact c14
        | 15, hv => cases hv; exact c15
        | 16, hv => cases hv; exact c16
        | n + 17, hv => simp at hv
      have HON : Hid ((#[.int .i64 k0, .string s1, .slice A2 n2 m2, .int .i64 k3, .int .i64 k4, .string s5, .int .i64 k6, .int .i64 k7, .string s8, .slice A9 n9 m9, .int .i64 k10, .string s11, .int .i64 k12, .int .i64 k13, .string s14, .slice A15 n15 m15, .int .i64 k16] : Array Value).all (·.oneCell') = true) := by show _ = _; simp [Value.oneCell']
      clear c0 c1 c2 c3 c4 c5 c6 c7 c8 c9 c10 c11 c12 c13 c14 c15 c16
      have hbx : Below w.heap.size w (wr.alloc (.cells #[.int .i64 k0, .string s1, .slice A2 n2 m2, .int .i64 k3, .int .i64 k4, .string s5, .int .i64 k6, .int .i64 k7, .string s8, .slice A9 n9 m9, .int .i64 k10, .string s11, .int .i64 k12, .int .i64 k13, .string s14, .slice A15 n15 m15, .int .i64 k16] 63)) := HB.out.alloc HB.out.size _
      have C := Lib.hid (hcall _ hbx)
      have HBX := Lib.hid hbx
      have HOks := Lib.hid hoks
      have HE : Hid ((r.head.args ++ termsB (r.body.take j)) ++ termsLt r.body[j] = r.head.args ++ termsB (r.body.take (j + 1))) := by show _ = _; rw [termsB_snoc hlt, List.append_assoc]
      have hbd : (r.head.args ++ termsB (r.body.take j)).length + (termsLt r.body[j]).length ≤ 30000 := by
        rw [← List.length_append, HE.out, List.length_append]
        have := HLB.out (j + 1)
        omega
      clear hcall hoks hbx
      generalize termsLt r.body[j] = TL at *
      generalize r.head.args ++ termsB (r.body.take j) = Lj at *
      go_wp2_with (first
        | (refine wpList_load_at (o := ⟨some 16, _, _, _, _, _⟩) rfl 63 _ rfl b (o + j * 17) rfl [.int .i64 k0, .string s1, .slice A2 n2 m2, .int .i64 k3, .int .i64 k4, .string s5, .int .i64 k6, .int .i64 k7, .string s8, .slice A9 n9 m9, .int .i64 k10, .string s11, .int .i64 k12, .int .i64 k13, .string s14, .slice A15 n15 m15, .int .i64 k16] HCS.out _ Tryd.underlying63 rfl infoLit ?_)
        | (refine wpList_store_new (o := ⟨none, .store 63 _ _, _, _, _, _⟩) rfl 63 _ _ rfl #[.int .i64 k0, .string s1, .slice A2 n2 m2, .int .i64 k3, .int .i64 k4, .string s5, .int .i64 k6, .int .i64 k7, .string s8, .slice A9 n9 m9, .int .i64 k10, .string s11, .int .i64 k12, .int .i64 k13, .string s14, .slice A15 n15 m15, .int .i64 k16] rfl rfl 63 _ infoLit rfl HON.out ?_)
        | (refine wpList_load_row (o := ⟨some 18, _, _, _, _, _⟩) rfl 63 _ rfl wr.heap.size rfl 63 #[.int .i64 k0, .string s1, .slice A2 n2 m2, .int .i64 k3, .int .i64 k4, .string s5, .int .i64 k6, .int .i64 k7, .string s8, .slice A9 n9 m9, .int .i64 k10, .string s11, .int .i64 k12, .int .i64 k13, .string s14, .slice A15 n15 m15, .int .i64 k16] (0, 0) _ (heap_alloc_new _ _) Tryd.underlying63 rfl infoLit ?_))
      refine C.out.mono ?_
      rintro e w2 ⟨T2, tc2, rfl, ho2, hn2, hb2⟩
      have HB2 : Hid (Below w.heap.size w w2) := HBX.out.trans (hb2.mono HBX.out.size)
      have HO2 : Hid (w2.ownsRow w.heap.size 26 4 (.slice Aj Lj.length cj) Lj.length (flatM Lj)) := own_below (HOj.out.alloc _) hb2
      have HR2 := Lib.hid (Rg.own ho2 HOks.out (by omega))
      have HN2 := Lib.hid hn2
      have hs2 : w.heap.size ≤ w2.heap.size := HB2.out.size
      clear ho2 hn2 hb2 C HCS HON
      go_wp2_with (at_builtin; refine appTm _ rfl 51 26 Tryd.underlying51 infoTm (.tmp 17) (.tmp 19) rfl w.heap.size Lj _ rfl HO2.out T2 tc2 TL rfl HN2.out HR2.out (by omega) hs2 ?_; intro A' c' w3 ho3 hn3 hb3)
      have HO3 : Hid (w3.ownsRow w.heap.size 26 4 (.slice A' (Lj ++ TL).length c') (Lj ++ TL).length (flatM (Lj ++ TL))) := by show w3.ownsRow _ _ _ _ _ _; rw [List.length_append]; exact ho3
      rw [HE.out] at HO3
      have HN3 := Lib.hid hn3
      have HB3 : Hid (Below w.heap.size w w3) := HB2.out.trans hb3
      have HLn3 : Hid (Lj.length + TL.length = (r.head.args ++ termsB (r.body.take (j + 1))).length) := by show _ = _; rw [← HE.out, List.length_append]
      clear ho3 hn3 hb3
      go_roundw
      case rel => exact ⟨j + 1, A', c', by omega, by go_num, by rw [HLn3.out], HO3, HN3, HB3⟩
      case measure => simp [intOf]; omega
    · have hjk : j = r.body.length := by omega
      have ef : r.head.args ++ termsB (r.body.take j) = termsRu r := by rw [hjk, List.take_length]; rfl
      rw [ef] at HOj ⊢
      have C2 := Lib.hid (once_any Aj cj (termsRu r) wr (Rg.own HOj.out HOkB.out (Nat.le_trans HLn.out (by omega))) (Nat.le_trans HLn.out (by omega)))
      clear ef hjk
      go_wp2_with fail
      refine C2.out.mono ?_
      rintro e w2 ⟨T2, c2, rfl, ho2, hn2, hb2⟩
      have HF : Hid (OwnS w (names [] (termsRu r)) (.returned (.slice T2 (names [] (termsRu r)).length c2)) w2) := OwnS.lower ⟨T2, c2, rfl, ho2, hn2, hb2⟩ HB.out
      clear ho2 hn2 hb2
      go_wp2_with fail
      go_ret
      exact HF.out
end Go.Proofs.YtlfakhjcpdkaiaaDoor
