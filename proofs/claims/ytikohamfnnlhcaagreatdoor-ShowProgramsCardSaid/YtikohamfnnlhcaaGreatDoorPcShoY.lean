/- ShowPrograms' walk. Conditions: what is laid. -/
import Derived.Test.YtikohamfnnlhcaaGreatDoorScI
import Derived.Test.YtikohamfnnlhcaaGreatDoorPcShoX
import Derived.Test.YtikohamfnnlhcaaGreatDoorPcShoN
import Derived.Test.YtikohamfnnlhcaaGreatDoorPcTermX
import Derived.Test.YtikohamfnnlhcaaGreatDoorScJ
import Derived.Test.YtikohamfnnlhcaaGreatDoorScK
import Derived.Test.YtikohamfnnlhcaaGreatDoorPcTermCe
set_option linter.unusedVariables false
set_option linter.unusedSimpArgs false
namespace Go.Proofs.YtikohamfnnlhcaaGreatDoor
open Go.RowKit Go.Deep Go.Shelf
attribute [local go_sem] Oper.semAt_some

theorem stop10 (st : Int) : ∃ q : Nat, wrap64 (1 + wrap64 ((IntKind.u64.wrap st).tmod 10)) = (q : Int) ∧ 1 ≤ q ∧ q ≤ 10 := by
  have h0 : 0 ≤ IntKind.u64.wrap st := by
    rw [IntKind.wrap_u64]
    omega
  have h1 := Int.tmod_nonneg 10 h0
  have h2 := Int.tmod_lt_of_pos (IntKind.u64.wrap st) (b := 10) (by omega)
  generalize (IntKind.u64.wrap st).tmod 10 = m at h1 h2
  refine ⟨(m + 1).toNat, ?_, by omega, by omega⟩
  unfold wrap64
  omega
/-- the boxes and the document's lines, between two rounds. -/
structure SpI (w : World) (b2 b3 b4 b5 b6 b7 n6 nb ne : Nat) (p : TPg) (Pc Dc : List Value) (A2 B2 : Option Addr) (stp : Int) (V6 : Value) (Ls : List ByteArray) (k : Nat) (W : World) : Prop where
  o2 : Own W b2 25 Pc
  o3 : Own W b3 3 [.int .i64 stp]
  o4 : Own W b4 4 [.bool false]
  o5 : Own W b5 31 Dc
  o6 : Own W b6 33 [V6]
  o7 : Own W b7 3 [.int .i64 (k : Int)]
  row : TxR n6 W V6 Ls
  doc : Stab W (fun k => (k < w.heap.size ∨ nb ≤ k) ∧ k < ne) (fun W => PgV W p A2 B2)
  low : Below w.heap.size w W
section
variable {w : World} {b2 b3 b4 b5 b6 b7 n6 nb ne : Nat} {p : TPg} {Pc Dc : List Value} {A2 B2 : Option Addr} {stp : Int} {V6 : Value} {Ls : List ByteArray} {k : Nat} {X Y : World}
theorem SpI.calm {n : Nat} (h : SpI w b2 b3 b4 b5 b6 b7 n6 nb ne p Pc Dc A2 B2 stp V6 Ls k X) (hc : Calm n X Y) (h1 : w.heap.size ≤ n) (h2 : ne ≤ n) : SpI w b2 b3 b4 b5 b6 b7 n6 nb ne p Pc Dc A2 B2 stp V6 Ls k Y :=
  ⟨hc.own h.o2, hc.own h.o3, hc.own h.o4, hc.own h.o5, hc.own h.o6, hc.own h.o7, h.row.calm hc, h.doc.keep hc.size (fun q hq hp => by
    have e : X.heap[q]? = some X.heap[q] := Array.getElem?_eq_getElem hq
    rw [e]
    exact hc.block q _ e (.inl (by omega))) (fun _ _ h => h), Below.calm h.low hc (Nat.le_refl _) h1⟩
theorem SpI.below (h : SpI w b2 b3 b4 b5 b6 b7 n6 nb ne p Pc Dc A2 B2 stp V6 Ls k X) (hb : Below X.heap.size X Y) : SpI w b2 b3 b4 b5 b6 b7 n6 nb ne p Pc Dc A2 B2 stp V6 Ls k Y :=
  ⟨h.o2.below hb, h.o3.below hb, h.o4.below hb, h.o5.below hb, h.o6.below hb, h.o7.below hb, h.row.calm (Calm.of_below 0 hb), h.doc.below hb, h.low.trans (hb.mono h.low.size)⟩
/-- the count goes up by one. -/
theorem SpI.bump (h : SpI w b2 b3 b4 b5 b6 b7 n6 nb ne p Pc Dc A2 B2 stp V6 Ls k X) (hn : ne ≤ b7) (hw : w.heap.size ≤ b7) (h37 : b3 ≠ b7) (m : Nat) : SpI w b2 b3 b4 b5 b6 b7 n6 nb ne p Pc Dc A2 B2 stp V6 Ls m (X.setCell ⟨b7, 0, none⟩ (.int .i64 (m : Int))) ∧ Kept [b7] X (X.setCell ⟨b7, 0, none⟩ (.int .i64 (m : Int))) := by
  have kb : Kept [b7] X (X.setCell ⟨b7, 0, none⟩ (.int .i64 (m : Int))) := (Kept.refl _ X).setCell (.inl (by simp)) _
  have ne_of : ∀ {g : Nat} {T : TypeId} {cs : List Value}, Own X g T cs → T ≠ 3 → g ∉ [b7] := fun ho hT hm => by
    simp only [List.mem_singleton] at hm
    subst hm
    exact hT (ho.inj h.o7)
  refine ⟨⟨kb.own h.o2 (ne_of h.o2 (by decide)), kb.own h.o3 (by simpa using h37), kb.own h.o4 (ne_of h.o4 (by decide)), kb.own h.o5 (ne_of h.o5 (by decide)), kb.own h.o6 (ne_of h.o6 (by decide)), h.o7.set 0 _, h.row.keep (fun q o hq ho _ => ?_), h.doc.keep kb.size (fun q hq hp => kb.block q hq (by simp only [List.mem_singleton]; omega)) (fun _ _ h => h), h.low.setCell (p := ⟨b7, 0, none⟩) hw _⟩, kb⟩
  obtain ⟨_, hq2, cur, hc⟩ := h.row.lo hq
  refine (kb.block q hq2 ?_).trans ho
  simp only [List.mem_singleton]
  rintro rfl
  have h7 := h.o7
  unfold Own at h7
  rw [h7] at hc
  injection hc with hc
  injection hc with _ hc
  exact absurd hc (by decide)
end
theorem spi_mk {w : World} {b2 b3 b4 b5 b6 n6 nb ne : Nat} {p : TPg} {Pc Dc : List Value} {A2 B2 : Option Addr} {stp : Int} {V6 : Value} {Ls : List ByteArray} {X Y : World} (kb : Kept [b6, b3] X Y) (hs : Y.heap.size = X.heap.size) (o2 : Own X b2 25 Pc) (o4 : Own X b4 4 [.bool false]) (o5 : Own X b5 31 Dc) (o3' : Own Y b3 3 [.int .i64 stp]) (o6' : Own Y b6 33 [V6]) (row : TxR n6 X V6 Ls) (doc : Stab X (fun k => (k < w.heap.size ∨ nb ≤ k) ∧ k < ne) (fun W => PgV W p A2 B2)) (low : Below w.heap.size w X)
    (h1 : w.heap.size ≤ b3 ∧ b3 < nb) (h2 : ne ≤ b6 ∧ nb ≤ ne ∧ b6 < n6) (h23 : b2 ≠ b3) (h34 : b3 ≠ b4) (h5 : b5 ≠ b6 ∧ b5 ≠ b3) (h26 : b2 ≠ b6) (h46 : b4 ≠ b6) :
    SpI w b2 b3 b4 b5 b6 X.heap.size n6 nb ne p Pc Dc A2 B2 stp V6 Ls 0 (Y.alloc (.cells #[.int .i64 0] 3)) := by
  have hb : Below Y.heap.size Y (Y.alloc (.cells #[.int .i64 0] 3)) := (Below.refl _ _).alloc (Nat.le_refl _) _
  have o7 : Own (Y.alloc (.cells #[.int .i64 0] 3)) Y.heap.size 3 [.int .i64 0] := heap_alloc_new _ _
  rw [hs] at o7
  have hlow : Below w.heap.size w Y := low.trans (kb.below low.size (fun k hk => by
    simp only [List.mem_cons, List.not_mem_nil, or_false] at hk
    omega))
  refine ⟨(kb.own o2 (by simp; omega)).below hb, o3'.below hb, (kb.own o4 (by simp; omega)).below hb, (kb.own o5 (by simp; omega)).below hb, o6'.below hb, o7, (row.keep (fun q o hq ho _ => ?_)).calm (Calm.of_below 0 hb), (doc.keep kb.size (fun q hq hp => kb.block q hq (by simp; omega)) (fun _ _ h => h)).below hb, hlow.trans (hb.mono hlow.size)⟩
  obtain ⟨hq1, hq2, _⟩ := row.lo hq
  exact (kb.block q hq2 (by simp; omega)).trans ho
/-- lines, one behind the other. -/
def txB (l : List ByteArray) : List UInt8 := l.flatMap fun x => x.data.toList ++ [10]
theorem txB_snoc {l : List ByteArray} {k : Nat} (h : k < l.length) : txB (l.take (k + 1)) = txB (l.take k) ++ (l[k].data.toList ++ [10]) := by
  unfold txB
  rw [List.take_succ_eq_append_getElem h, List.flatMap_append]
  simp
theorem txB_le {l : List ByteArray} {k : Nat} : (txB (l.take k)).length ≤ (txB l).length := by
  unfold txB
  conv => rhs; rw [← List.take_append_drop k l]
  rw [List.flatMap_append, List.length_append]
  omega
theorem txB_map (L : List (List UInt8)) : txB (L.map bts) = linesT L := by
  unfold txB linesT
  rw [List.flatMap_map]

set_option maxRecDepth 100000 in
set_option maxHeartbeats 8000000 in
theorem programs_walk (p : TPg) (A : Option Addr) (c : Nat) (B : Option Addr) (d : Nat) (st : Int) (w : World) (hV : PgV w p A B) (hS : Sht w) (hK : StrTab w 3 kindsL) :
    Calls Tryz.prog 3 #[pgV p A c B d, .int .i64 st] w fun q w' => q = .returned (.bool true) ∧ Below w.heap.size w w' := by
  refine (callsIn_wide (n := 9)).1 ?_
  have hff : Fence.wide.fn 3 := trivial
  have hf1 : Fence.wide.fn 6 := trivial
  have hf2 : Fence.wide.fn 7 := trivial
  have hf3 : Fence.wide.fn 8 := trivial
  have hf4 : Fence.wide.fn 9 := trivial
  have hf5 : Fence.wide.fn 10 := trivial
  have hf6 : Fence.wide.fn 11 := trivial
  have hf7 : Fence.wide.fn 12 := trivial
  have hf8 : Fence.wide.fn 13 := trivial
  have hF : Fence.wide.fn 73 := trivial
  have hb : Below w.heap.size w (((w.alloc (.cells #[.slice A p.decls.length c, .slice B p.rules.length d] 25)).alloc (.cells #[.int .i64 st] 3)).alloc (.cells #[.bool false] 4)) := (((Below.refl _ _).alloc (Nat.le_refl _) _).alloc (by simp) _).alloc (by simp; omega) _
  have o2 : Own (w.alloc (.cells #[.slice A p.decls.length c, .slice B p.rules.length d] 25)) w.heap.size 25 [.slice A p.decls.length c, .slice B p.rules.length d] := heap_alloc_new _ _
  have o3 : Own ((w.alloc (.cells #[.slice A p.decls.length c, .slice B p.rules.length d] 25)).alloc (.cells #[.int .i64 st] 3)) (w.heap.size + 1) 3 [.int .i64 st] := own_second w _ _ _
  have o4 := heap_alloc_new ((w.alloc (.cells #[.slice A p.decls.length c, .slice B p.rules.length d] 25)).alloc (.cells #[.int .i64 st] 3)) (.cells #[.bool false] 4)
  simp only [World.size_alloc] at o4
  have O2 : Hid (Own (((w.alloc (.cells #[.slice A p.decls.length c, .slice B p.rules.length d] 25)).alloc (.cells #[.int .i64 st] 3)).alloc (.cells #[.bool false] 4)) w.heap.size 25 [.slice A p.decls.length c, .slice B p.rules.length d]) := (o2.alloc _).alloc _
  have O3 : Hid (Own (((w.alloc (.cells #[.slice A p.decls.length c, .slice B p.rules.length d] 25)).alloc (.cells #[.int .i64 st] 3)).alloc (.cells #[.bool false] 4)) (w.heap.size + 1) 3 [.int .i64 st]) := o3.alloc _
  have O4 : Hid (Own (((w.alloc (.cells #[.slice A p.decls.length c, .slice B p.rules.length d] 25)).alloc (.cells #[.int .i64 st] 3)).alloc (.cells #[.bool false] 4)) (w.heap.size + 1 + 1) 4 [.bool false]) := o4
  obtain ⟨b2, hb2⟩ : ∃ b, b = w.heap.size := ⟨_, rfl⟩
  obtain ⟨b3, hb3⟩ : ∃ b, b = w.heap.size + 1 := ⟨_, rfl⟩
  obtain ⟨b4, hb4⟩ : ∃ b, b = w.heap.size + 1 + 1 := ⟨_, rfl⟩
  rw [← hb4] at O4
  rw [← hb3] at O3
  rw [← hb2] at O2
  obtain ⟨w3, hw3⟩ : ∃ w3, w3 = (((w.alloc (.cells #[.slice A p.decls.length c, .slice B p.rules.length d] 25)).alloc (.cells #[.int .i64 st] 3)).alloc (.cells #[.bool false] 4)) := ⟨_, rfl⟩
  rw [← hw3] at hb O2 O3 O4
  have hs3 : w3.heap.size = w.heap.size + 3 := by rw [hw3]; simp
  have HAl := Lib.hid (alive7 w3 (hS.below hb))
  have HB := Lib.hid hb
  have HV := Lib.hid hV
  have HS := Lib.hid hS
  have HK := Lib.hid hK
  have HSzz := Lib.hid (fun (h : 0 ≤ leftPg p 1500) => smallP_of h)
  unfold pgV
  clear hV hS hK hb o2 o3 o4
  refine callsIn_of_wp_marks Tryz.func3 rfl hff ?_ rfl
  simp only [Tryz.ntmps3, List.size_toArray, List.length_cons, List.length_nil, Nat.reduceAdd, Nat.reduceSub, Array.replicate_succ, Array.replicate_zero, List.push_toArray, List.append_toArray, List.nil_append, List.cons_append]
  gi_wp2_with fail
  rw [← hw3]
  repeat rw [show (Value.pointer (some ⟨w.heap.size + 1 + 1, 0, none⟩)) = .pointer (some ⟨b4, 0, none⟩) by rw [hb4]]
  repeat rw [show (Value.pointer (some ⟨w.heap.size + 1, 0, none⟩)) = .pointer (some ⟨b3, 0, none⟩) by rw [hb3]]
  repeat rw [show (Value.pointer (some ⟨w.heap.size, 0, none⟩)) = .pointer (some ⟨b2, 0, none⟩) by rw [hb2]]
  have n3 : w.heap.size ≤ b3 ∧ b3 < w.heap.size + 3 := by omega
  have n4 : w.heap.size ≤ b4 ∧ b4 < w.heap.size + 3 := by omega
  have n34 : b3 ≠ b4 := by omega
  have n2 : w.heap.size ≤ b2 ∧ b2 < b3 := by omega
  clear hw3 hb2 hb3 hb4
  refine (callsIn_wide.2 HAl.out).mono ?_
  rintro e w4 ⟨rfl, q⟩
  have hs4 := q.size
  have O2 := Lib.hid (O2.out.below q)
  have O3 := Lib.hid (O3.out.below q)
  have O4 := Lib.hid (O4.out.below q)
  have HB4 := Lib.hid (HB.out.trans (q.mono HB.out.size))
  clear q HAl HB
  have HSi := Lib.hid (Size_any p A c B d 1500 w4 (HV.out.below HB4.out) (by omega) (by omega))
  have c0 := O2.out.cell 0
  have c1 := O2.out.cell 1
  have cl := O2.out.lt
  simp only [List.getElem?_cons_zero, List.getElem?_cons_succ] at c0 c1
  unfold pgV at HSi
  gi_wp2_with fail
  refine (callsIn_wide.2 HSi.out).mono ?_
  rintro e w5 ⟨rfl, q⟩
  have hs5 := Nat.le_trans hs4 q.size
  have O2 := Lib.hid (O2.out.below q)
  have O3 := Lib.hid (O3.out.below q)
  have O4 := Lib.hid (O4.out.below q)
  have HB5 := Lib.hid (HB4.out.trans (q.mono HB4.out.size))
  clear q HSi HB4 c0 c1 cl hs4
  have f40 := O4.out.cell 0
  have f4f := O4.out.frozen 0
  have f4q := O4.out.lt
  simp only [List.getElem?_cons_zero] at f40
  by_cases hz : leftPg p 1500 < 0
  · clear HSzz
    generalize leftPg p 1500 = z at *
    gi_wp2
    exact ⟨.bool true, (by simp [results, Tryz.results3, go_sem, (O4.out.set 0 (.bool true)).cell 0]), rfl, HB5.out.setCell (p := ⟨b4, 0, none⟩) n4.1 _⟩
  have HSm := Lib.hid (HSzz.out (by omega))
  clear HSzz f40 f4f f4q
  generalize leftPg p 1500 = z at *
  have HDo := Lib.hid (Document_copyS p A c B d w w5 HSm.out HV.out HB5.out)
  have c0 := O2.out.cell 0
  have c1 := O2.out.cell 1
  have cl := O2.out.lt
  simp only [List.getElem?_cons_zero, List.getElem?_cons_succ] at c0 c1
  unfold pgV at HDo
  gi_wp2_with fail
  refine (callsIn_wide.2 HDo.out).mono ?_
  rintro e w6 ⟨A2, c2, B2, d2, rfl, hst, q⟩
  have hs6 := q.size
  have hst2 := hst.more (P' := fun k => (k < w.heap.size ∨ w5.heap.size ≤ k) ∧ k < w6.heap.size) (fun k hk hp => ⟨hp, hk⟩)
  have HB6 := Lib.hid (HB5.out.trans (q.mono HB5.out.size))
  have O2 := Lib.hid (O2.out.below q)
  have O3 := Lib.hid (O3.out.below q)
  have O4 := Lib.hid (O4.out.below q)
  have HD := Lib.hid hst2
  have hq8 : Below w6.heap.size w6 ((w6.alloc (.cells #[.slice A2 p.decls.length c2, .slice B2 p.rules.length d2] 31)).alloc (.cells #[.slice none 0 0] 33)) := ((Below.refl _ _).alloc (Nat.le_refl _) _).alloc (by simp) _
  have o5 : Own (w6.alloc (.cells #[.slice A2 p.decls.length c2, .slice B2 p.rules.length d2] 31)) w6.heap.size 31 [.slice A2 p.decls.length c2, .slice B2 p.rules.length d2] := heap_alloc_new _ _
  have o5 := o5.alloc (.cells #[.slice none 0 0] 33)
  have o6 : Own ((w6.alloc (.cells #[.slice A2 p.decls.length c2, .slice B2 p.rules.length d2] 31)).alloc (.cells #[.slice none 0 0] 33)) (w6.heap.size + 1) 33 [.slice none 0 0] := own_second w6 _ _ _
  obtain ⟨w8, hw8⟩ : ∃ w8, w8 = ((w6.alloc (.cells #[.slice A2 p.decls.length c2, .slice B2 p.rules.length d2] 31)).alloc (.cells #[.slice none 0 0] 33)) := ⟨_, rfl⟩
  rw [← hw8] at hq8 o5 o6
  have hs8 : w8.heap.size = w6.heap.size + 2 := by rw [hw8]; simp
  have O2 := Lib.hid (O2.out.below hq8)
  have O3 := Lib.hid (O3.out.below hq8)
  have O4 := Lib.hid (O4.out.below hq8)
  have O5 := Lib.hid o5
  have O6 := Lib.hid o6
  have HB8 := Lib.hid (HB6.out.trans (hq8.mono HB6.out.size))
  have HD8 := Lib.hid (HD.out.below hq8)
  have HFo := Lib.hid (refPg_is p A2 c2 B2 d2 w8 HD8.out.here)
  have e0 := O5.out.cell 0
  have e1 := O5.out.cell 1
  have el := O5.out.lt
  simp only [List.getElem?_cons_zero, List.getElem?_cons_succ] at e0 e1
  unfold pgV at HFo ⊢
  obtain ⟨b5, hb5⟩ : ∃ b, b = w6.heap.size := ⟨_, rfl⟩
  obtain ⟨b6, hb6⟩ : ∃ b, b = w6.heap.size + 1 := ⟨_, rfl⟩
  have HW8 := Lib.hid hw8
  clear q hst hst2 HDo c0 c1 cl hq8 o5 o6 hw8 HD HB5 HB6
  gi_wp2_with fail
  rw [← HW8.out]
  rw [← hb5] at O5 e0 e1 el
  rw [← hb6] at O6
  repeat rw [show (Value.pointer (some ⟨w6.heap.size + 1, 0, none⟩)) = .pointer (some ⟨b6, 0, none⟩) by rw [hb6]]
  repeat rw [show (Value.pointer (some ⟨w6.heap.size, 0, none⟩)) = .pointer (some ⟨b5, 0, none⟩) by rw [hb5]]
  have n5 : w6.heap.size = b5 := hb5.symm
  have n6 : b5 < b6 ∧ b6 ≤ b5 + 1 := by omega
  rw [n5] at hs6 hs8 HD8
  clear hb5 hb6 HW8 n5
  refine (callsIn_wide.2 HFo.out).mono ?_
  rintro e w9 ⟨rfl, q⟩
  have hs9 := q.size
  have O2 := Lib.hid (O2.out.below q)
  have O3 := Lib.hid (O3.out.below q)
  have O4 := Lib.hid (O4.out.below q)
  have O5 := Lib.hid (O5.out.below q)
  have O6 := Lib.hid (O6.out.below q)
  have HB9 := Lib.hid (HB8.out.trans (q.mono HB8.out.size))
  have HD9 := Lib.hid (HD8.out.below q)
  clear q HFo HB8 HD8 e0 e1 el
  obtain ⟨stp, hst, hs1, hs10⟩ := stop10 st
  have HST := Lib.hid hst
  clear hst
  cases hf : formedB p with
  | true =>
    have HF := Lib.hid hf
    have HLn := Lib.hid (rxLines p A2 c2 B2 d2 w9 hf HD9.out.here)
    have e0 := O5.out.cell 0
    have e1 := O5.out.cell 1
    have el := O5.out.lt
    simp only [List.getElem?_cons_zero, List.getElem?_cons_succ] at e0 e1
    unfold pgV at HLn
    clear hf
    gi_wp2_with fail
    refine (callsIn_wide.2 HLn.out).mono ?_
    rintro e w10 ⟨A6, c6, rfl, hrw, q⟩
    have hsA := q.size
    have O2 := Lib.hid (O2.out.below q)
    have O3 := Lib.hid (O3.out.below q)
    have O4 := Lib.hid (O4.out.below q)
    have O5 := Lib.hid (O5.out.below q)
    have O6 := Lib.hid (O6.out.below q)
    have HBA := Lib.hid (HB9.out.trans (q.mono HB9.out.size))
    have HDA := Lib.hid (HD9.out.below q)
    have HRw := Lib.hid hrw
    clear q hrw HLn HB9 HD9 e0 e1 el
    have x6 := O6.out.cell 0
    have y6 := O6.out.frozen 0
    have z6 := O6.out.lt
    have x3 := ((Kept.refl [b6] w10).setCell (p := ⟨b6, 0, none⟩) (.inl (by simp)) (.slice A6 (linesX p).length c6)).own O3.out (by simp; omega)
    have X3 := Lib.hid x3
    have g3 := x3.cell 0
    have h3 := x3.frozen 0
    have i3 := x3.lt
    simp only [List.getElem?_cons_zero] at x6 g3
    clear x3
    gi_wp2_with fail
    rw [HST.out]
    have hI0 : SpI w b2 b3 b4 b5 b6 w10.heap.size w9.heap.size w5.heap.size b5 p [.slice A p.decls.length c, .slice B p.rules.length d] [.slice A2 p.decls.length c2, .slice B2 p.rules.length d2] A2 B2 (stp : Int) (.slice A6 (linesX p).length c6) ((linesX p).map bts) 0 (((w10.setCell ⟨b6, 0, none⟩ (.slice A6 (linesX p).length c6)).setCell ⟨b3, 0, none⟩ (.int .i64 (stp : Int))).alloc (.cells #[.int .i64 0] 3)) := by
      have kb : Kept [b6, b3] w10 ((w10.setCell ⟨b6, 0, none⟩ (.slice A6 (linesX p).length c6)).setCell ⟨b3, 0, none⟩ (.int .i64 (stp : Int))) := ((Kept.refl _ w10).setCell (.inl (by simp)) _).setCell (.inl (by simp)) _
      have o6' := ((Kept.refl [b3] (w10.setCell ⟨b6, 0, none⟩ (.slice A6 (linesX p).length c6))).setCell (p := ⟨b3, 0, none⟩) (.inl (by simp)) (.int .i64 (stp : Int))).own (O6.out.set 0 (.slice A6 (linesX p).length c6)) (by simp; omega)
      exact spi_mk kb (by simp) O2.out O4.out O5.out (X3.out.set 0 _) o6' HRw.out HDA.out HBA.out (by omega) (by omega) (by omega) n34 (by omega) (by omega) (by omega)
    obtain ⟨b7, hb7⟩ : ∃ b, b = w10.heap.size := ⟨_, rfl⟩
    obtain ⟨Ls, hLs⟩ : ∃ Ls, Ls = (linesX p).map bts := ⟨_, rfl⟩
    have hLl : (linesX p).length = Ls.length := by rw [hLs, List.length_map]
    obtain ⟨wL, hwL⟩ : ∃ wL, wL = (((w10.setCell ⟨b6, 0, none⟩ (.slice A6 (linesX p).length c6)).setCell ⟨b3, 0, none⟩ (.int .i64 (stp : Int))).alloc (.cells #[.int .i64 0] 3)) := ⟨_, rfl⟩
    rw [← hwL, ← hb7, ← hLs, hLl] at hI0
    rw [← hwL, ← hb7, hLl]
    have HI0 := Lib.hid hI0
    have HLs := Lib.hid hLs
    have hLsL : Ls.length ≤ 96 := by
      obtain ⟨h1, _, h2, _⟩ := formed_parts HF.out
      rw [← hLl, linesX_len]
      omega
    have hTx : (txB Ls).length ≤ 70000000000 := by rw [hLs, txB_map]; exact txPg_len HF.out
    have n7 : b6 < b7 ∧ b5 ≤ b7 := by omega
    have n9 : b6 < w9.heap.size := by omega
    clear hI0 hwL hb7 hLs hLl x6 y6 z6 X3 g3 h3 i3 O2 O3 O4 O5 O6 HBA HDA HRw HST
    have hr0 : ByteArray.mk #[] = bts (txB (Ls.take 0)) := by simp [txB, bts]
    have HR0 := Lib.hid hr0
    clear hr0
    gi_loopw [8, 32] (fun s i wr => ∃ k : Nat, k ≤ Ls.length ∧ s = .string (bts (txB (Ls.take k))) ∧ i = .int .i64 k ∧ Hid (Below wL.heap.size wL wr)) (fun _ i _ => Ls.length - (intOf i).toNat)
    case atStart => exact ⟨0, Nat.zero_le _, by rw [← HR0.out], rfl, Lib.hid (Below.refl _ _)⟩
    case round =>
      clear HR0
      obtain ⟨k9, hk, rfl, rfl, HBr⟩ := hrel
      have hsz : (bts (txB (Ls.take k9))).size ≤ 70000000000 := by rw [bts_size]; exact Nat.le_trans txB_le hTx
      by_cases hlt : k9 < Ls.length
      · obtain ⟨g, hA, hgr, _, hcl⟩ := (HI0.out.below HBr.out).row.at_ hlt
        subst hA
        have hsn := txB_snoc hlt
        have hle := txB_le (l := Ls) (k := k9 + 1)
        rw [hsn] at hle
        have hxs : Ls[k9].size ≤ 70000000000 := by
          have e : Ls[k9].data.toList.length = Ls[k9].size := by simp
          simp only [List.length_append, List.length_cons, List.length_nil] at hle
          omega
        have HN : Hid (bts (txB (Ls.take (k9 + 1))) = bts (txB (Ls.take k9)) ++ (Ls[k9] ++ ⟨#[10]⟩)) := by
          show _ = _
          rw [hsn]
          apply ByteArray.ext
          simp [bts]
        clear hsn hle
        generalize Ls[k9] = x at *
        generalize bts (txB (Ls.take k9)) = S0 at *
        gi_wp2
        go_roundw
        case rel => exact ⟨k9 + 1, by omega, by rw [HN.out], by go_num, HBr⟩
        case measure => simp [intOf]; omega
      · have hke : k9 = Ls.length := by omega
        subst hke
        rw [List.take_length] at hsz ⊢
        have HI := Lib.hid (HI0.out.below HBr.out)
        have HLi := Lib.hid (Lines_anyS p A c B d wr (HV.out.below HI.out.low) (HS.out.below HI.out.low) (HK.out.below HI.out.low))
        rw [if_pos HF.out, ← HLs.out] at HLi
        have c0 := HI.out.o2.cell 0
        have c1 := HI.out.o2.cell 1
        have cl := HI.out.o2.lt
        simp only [List.getElem?_cons_zero, List.getElem?_cons_succ] at c0 c1
        unfold pgV at HLi
        clear hlt hk
        gi_wp2_with fail
        refine (callsIn_wide.2 HLi.out).mono ?_
        rintro e wM ⟨bs, A9, c9, rfl, hbs, hOw, hRw, q⟩
        have HIM := Lib.hid (HI.out.below q)
        have HOw := Lib.hid hOw
        have HRw := Lib.hid hRw
        have hsM := q.size
        have hwr : b7 < wr.heap.size := HI.out.o7.lt
        have hwl := HIM.out.low.size
        clear hOw hRw q HLi HI c0 c1 cl
        have hS9 : bts (txB Ls) = bts (txPg p) := by rw [HLs.out, txB_map]; rfl
        have HS9 := Lib.hid hS9
        clear hS9
        generalize bts (txB Ls) = S9 at *
        gi_wp2_with fail
        refine' range_law (Kp := Stay (fun k => wr.heap.size ≤ k)) (Px := fun pre x _ => (pre ++ [x]) <+: Ls) (S := fun xs => xs = Ls) (Sp := fun pre => pre <+: Ls) (encs := fun x : ByteArray => #[.string x]) rfl (by omega) (gf := 73) (lb := #[.pointer (some ⟨bs, 0, none⟩)]) rfl hF (enters_of Tryz.func73 (by kernel_rfl) rfl)
          ?seq (fun h h' => h.trans h') (fun X Y hX hc => Stay.calm hc) (fun _ => rfl)
          (fun pre X => pre.length < stp ∧ SpI w b2 b3 b4 b5 b6 b7 w9.heap.size w5.heap.size b5 p [.slice A p.decls.length c, .slice B p.rules.length d] [.slice A2 p.decls.length c2, .slice B2 p.rules.length d2] A2 B2 (stp : Int) (.slice A6 Ls.length c6) Ls pre.length X) (fun cd pre X => cd = Code.exit 2 ∧ pre.length = stp ∧ SpI w b2 b3 b4 b5 b6 b7 w9.heap.size w5.heap.size b5 p [.slice A p.decls.length c, .slice B p.rules.length d] [.slice A2 p.decls.length c2, .slice B2 p.rules.length d2] A2 B2 (stp : Int) (.slice A6 Ls.length c6) Ls pre.length X) (fun s X Y h hc => ⟨h.1, h.2.calm hc (by omega) (by omega)⟩) (fun cd s X Y h hc => ⟨h.1, h.2.1, h.2.2.calm hc (by omega) (by omega)⟩)
          (fun pre x X Y h hc => h) ⟨by simp only [List.length_nil]; omega, HIM.out⟩ _ ?assign ?body ?done ?stop
        case assign =>
          intro l x X K hK
          gi_wp2
          exact hK
        case seq =>
          intro l J Jx X hX hJ hJx hY h0'
          exact vals_inS 8 (by omega) l Ls A9 c9 wr.heap.size bs (fun X => Own X bs 33 [.slice A9 Ls.length c9] ∧ TxR wr.heap.size X (.slice A9 Ls.length c9) Ls) (Stay (fun k => wr.heap.size ≤ k)) J Jx X (fun X h => ⟨h.1.cell 0, h.2⟩) (fun X Y h hb => ⟨h.1.below hb, h.2.calm (Calm.of_below 0 hb)⟩)
            (fun X Y h hs => ⟨hs.own h.1 hbs, h.2.keep (fun k o hk ho hcl => hs.block k o (h.2.lo hk).1 ho hcl)⟩) hJ hJx (fun pre x W1 h1 h2 => hY pre x W1 h1 h2) h0' ⟨HOw.out.below hX, HRw.out.calm (Calm.of_below 0 hX)⟩
        case body =>
          rintro l pre x X ⟨hls, hI⟩ hpre
          have hkl : pre.length < Ls.length := by have h := hpre.length_le; simp at h; omega
          obtain ⟨g, hA, hgr, _, hcl⟩ := hI.row.at_ hkl
          have hx : Ls[pre.length] = x := by
            obtain ⟨r, hr⟩ := hpre
            have h1 : Ls[pre.length]? = some x := by rw [← hr]; simp
            rw [List.getElem?_eq_getElem hkl] at h1
            exact Option.some.inj h1
          rw [hx] at hcl
          have hA' := hA
          have g3 := hI.o3.cell 0
          have g6 := hI.o6.cell 0
          have g7 := hI.o7.cell 0
          have m3 := hI.o3.lt
          have m6 := hI.o6.lt
          have m7 := hI.o7.lt
          have f7 := hI.o7.frozen 0
          simp only [List.getElem?_cons_zero] at g3 g6 g7
          rw [hA] at g6
          have n37 : ¬ b3 = b7 := by omega
          have n73 : ¬ b7 = b3 := by omega
          obtain ⟨hB, kB⟩ := hI.bump (by omega) (by omega) n37 (pre ++ [x]).length
          have e2 : (((pre ++ [x]).length : Nat) : Int) = (pre.length : Int) + 1 := by simp
          have hlen : (pre ++ [x]).length = pre.length + 1 := by simp
          have HLn := Lib.hid hlen
          have HKF : Hid (KeepsFrom wM.heap.size X (X.setCell ⟨b7, 0, none⟩ (.int .i64 (((pre ++ [x]).length : Nat) : Int)))) := (KeepsOthers.setCell _ _ _).from _
          have HSt : Hid (Stay (fun k => wr.heap.size ≤ k) X (X.setCell ⟨b7, 0, none⟩ (.int .i64 (((pre ++ [x]).length : Nat) : Int)))) := Stay.kept kB (fun k hk hm => by simp only [List.mem_singleton] at hm; omega)
          have HB := Lib.hid hB
          rw [e2] at HKF HSt HB
          have hki : (pre.length : Int) < (Ls.length : Int) := by omega
          have hk0 : (0 : Int) ≤ (pre.length : Int) := by omega
          have hkb : pre.length ≤ 96 := by omega
          clear hB kB e2 hlen hx hpre hA hI
          have g3' : (X.setCell ⟨b7, 0, none⟩ (.int .i64 ((pre.length : Int) + 1))).cell? ⟨b3, 0, none⟩ = some (.int .i64 (stp : Int)) := HB.out.o3.cell 0
          have g7' : (X.setCell ⟨b7, 0, none⟩ (.int .i64 ((pre.length : Int) + 1))).cell? ⟨b7, 0, none⟩ = some (.int .i64 ((pre.length : Int) + 1)) := by have h := HB.out.o7.cell 0; simp only [List.getElem?_cons_zero] at h; rw [h]; simp
          by_cases heq : pre.length + 1 = stp
          · have hq : ((pre.length : Int) + 1 == (stp : Int)) = true := by simp only [beq_iff_eq]; omega
            gi_wp2_with fail
            exact ⟨HKF.out, rfl, by rw [HLn.out]; exact heq, HB.out⟩
          · have hq : ((pre.length : Int) + 1 == (stp : Int)) = false := by simp only [beq_eq_false_iff_ne]; omega
            gi_wp2_with fail
            exact ⟨HKF.out, HSt.out, by rw [HLn.out]; omega, HB.out⟩
        case done =>
          rintro D ys X hD rfl ⟨hls, hI⟩ hKD
          have HII := Lib.hid hI
          have HKD := Lib.hid hKD
          have HDD := Lib.hid hD
          have g2 := hI.o2.cell 0
          have g2' := hI.o2.cell 1
          have m2 := hI.o2.lt
          simp only [List.getElem?_cons_zero, List.getElem?_cons_succ] at g2 g2'
          have HPr := Lib.hid (Program_anyS p A c B d X (HV.out.below hI.low) (HS.out.below hI.low) (HK.out.below hI.low))
          rw [HF.out] at HPr
          unfold pgV GotT at HPr
          clear hI hKD hD
          gi_wp2_with fail
          refine (callsIn_wide.2 HPr.out).mono ?_
          rintro e wP ⟨rfl, q⟩
          have HIP := Lib.hid (HII.out.below q)
          have HKP := Lib.hid ((q.block D (Array.getElem?_eq_some_iff.1 HKD.out).1).trans HKD.out)
          have hsP := q.size
          clear q HPr g2 g2' m2 HII HKD
          have g7 := HIP.out.o7.cell 0
          have m7 := HIP.out.o7.lt
          have g3 := HIP.out.o3.cell 0
          have m3 := HIP.out.o3.lt
          have g6 := HIP.out.o6.cell 0
          have m6 := HIP.out.o6.lt
          simp only [List.getElem?_cons_zero] at g7 g3 g6
          have hmn : min (stp : Int) (ys.length : Int) = (ys.length : Int) := by omega
          have g5 := HIP.out.o5.cell 0
          have g5' := HIP.out.o5.cell 1
          have m5 := HIP.out.o5.lt
          simp only [List.getElem?_cons_zero, List.getElem?_cons_succ] at g5 g5'
          have HFo := Lib.hid (refPg_is p A2 c2 B2 d2 wP (HIP.out.doc.here))
          rw [HF.out] at HFo
          unfold pgV at HFo
          gi_wp2_with fail
          refine (callsIn_wide.2 HFo.out).mono ?_
          rintro e wQ ⟨rfl, q⟩
          have HIQ := Lib.hid (HIP.out.below q)
          have HKQ := Lib.hid ((q.block D (Array.getElem?_eq_some_iff.1 HKP.out).1).trans HKP.out)
          clear q HFo g7 m7 g3 m3 g6 m6 g5 g5' m5 HIP HKP
          have f40 := HIQ.out.o4.cell 0
          have f4f := HIQ.out.o4.frozen 0
          have f4q := HIQ.out.o4.lt
          simp only [List.getElem?_cons_zero] at f40
          have hK2 : (wQ.setCell ⟨b4, 0, none⟩ (.bool true)).heap[D]? = some (.deferred (some [])) := (KeepsOthers.setCell _ _ _).same D _ HKQ.out rfl
          have hO4 := HIQ.out.o4.set 0 (.bool true)
          have hcm : Calm wM.heap.size (wQ.setCell ⟨b4, 0, none⟩ (.bool true)) ((wQ.setCell ⟨b4, 0, none⟩ (.bool true)).putObj D (.deferred none)) := Calm.put _ hK2 rfl HDD.out
          have HFin : Hid (Below w.heap.size w ((wQ.setCell ⟨b4, 0, none⟩ (.bool true)).putObj D (.deferred none))) := Below.calm (HIQ.out.low.setCell (p := ⟨b4, 0, none⟩) n4.1 _) hcm (Nat.le_refl _) (by omega)
          have HK2 := Lib.hid hK2
          have HO4 := Lib.hid (hcm.own hO4)
          have hS9 := HS9.out
          have hsl : (S9.size : Int) = ((txPg p).length : Int) := by rw [hS9, bts_size]
          clear hK2 hO4 hcm HIQ HKQ
          by_cases hlen : ((txPg p).length : Int) ≤ 4000
          · have e1 : outS true (txPg p) 4000 = S9 := by unfold outS; rw [if_pos (by simpa using hlen), ← hS9]
            have e2 : errS (outE true (txPg p) 4000) = .nilIface := by unfold outE; rw [if_pos rfl, if_pos hlen]; rfl
            rw [e1, e2]
            have hk1 : ∀ w, (binOp .eql 41 .nilIface .nilIface).run Tryz.prog w = .ok (.bool true) w := fun w => by kernel_rfl
            have hl4 : ¬ (4000 : Int) < (S9.size : Int) := by omega
            clear e1 e2 hS9 hsl hlen
            gi_wp2_with fail
            refine ⟨by simp, .inl ⟨_, _, rfl, run_takeDeferred HK2.out, ?_⟩⟩
            exact ⟨.bool true, (by simp [results, Tryz.results3, go_sem, HO4.out.cell 0]), rfl, HFin.out⟩
          · have e1 : outS true (txPg p) 4000 = noText := by unfold outS; rw [if_neg (by simpa using hlen)]
            have e2 : errS (outE true (txPg p) 4000) = eno 3 := by unfold outE; rw [if_pos rfl, if_neg hlen]; rfl
            rw [e1, e2]
            have HIs := Lib.hid (Is_eno 3 3 wQ rfl true rfl)
            have hl4 : (4000 : Int) < (S9.size : Int) := by omega
            clear e1 e2 hS9 hsl hlen
            gi_wp2_with fail
            refine (callsIn_wide.2 HIs.out).mono ?_
            rintro e w' ⟨rfl, rfl⟩
            gi_wp2_with fail
            refine ⟨by simp, .inl ⟨_, _, rfl, run_takeDeferred HK2.out, ?_⟩⟩
            exact ⟨.bool true, (by simp [results, Tryz.results3, go_sem, HO4.out.cell 0]), rfl, HFin.out⟩
        case stop =>
          rintro D cd pre X hD hpre ⟨rfl, hle, hI⟩ hKD
          have hpl := hpre.length_le
          have HII := Lib.hid hI
          have HKD := Lib.hid hKD
          have HDD := Lib.hid hD
          have g2 := hI.o2.cell 0
          have g2' := hI.o2.cell 1
          have m2 := hI.o2.lt
          simp only [List.getElem?_cons_zero, List.getElem?_cons_succ] at g2 g2'
          have HPr := Lib.hid (Program_anyS p A c B d X (HV.out.below hI.low) (HS.out.below hI.low) (HK.out.below hI.low))
          rw [HF.out] at HPr
          unfold pgV GotT at HPr
          clear hI hKD hD
          gi_wp2_with fail
          refine (callsIn_wide.2 HPr.out).mono ?_
          rintro e wP ⟨rfl, q⟩
          have HIP := Lib.hid (HII.out.below q)
          have HKP := Lib.hid ((q.block D (Array.getElem?_eq_some_iff.1 HKD.out).1).trans HKD.out)
          have hsP := q.size
          clear q HPr g2 g2' m2 HII HKD
          have g7 := HIP.out.o7.cell 0
          have m7 := HIP.out.o7.lt
          have g3 := HIP.out.o3.cell 0
          have m3 := HIP.out.o3.lt
          have g6 := HIP.out.o6.cell 0
          have m6 := HIP.out.o6.lt
          simp only [List.getElem?_cons_zero] at g7 g3 g6
          have hmn : min (stp : Int) (Ls.length : Int) = (pre.length : Int) := by omega
          have g5 := HIP.out.o5.cell 0
          have g5' := HIP.out.o5.cell 1
          have m5 := HIP.out.o5.lt
          simp only [List.getElem?_cons_zero, List.getElem?_cons_succ] at g5 g5'
          have HFo := Lib.hid (refPg_is p A2 c2 B2 d2 wP (HIP.out.doc.here))
          rw [HF.out] at HFo
          unfold pgV at HFo
          gi_wp2_with fail
          refine (callsIn_wide.2 HFo.out).mono ?_
          rintro e wQ ⟨rfl, q⟩
          have HIQ := Lib.hid (HIP.out.below q)
          have HKQ := Lib.hid ((q.block D (Array.getElem?_eq_some_iff.1 HKP.out).1).trans HKP.out)
          clear q HFo g7 m7 g3 m3 g6 m6 g5 g5' m5 HIP HKP
          have f40 := HIQ.out.o4.cell 0
          have f4f := HIQ.out.o4.frozen 0
          have f4q := HIQ.out.o4.lt
          simp only [List.getElem?_cons_zero] at f40
          have hK2 : (wQ.setCell ⟨b4, 0, none⟩ (.bool true)).heap[D]? = some (.deferred (some [])) := (KeepsOthers.setCell _ _ _).same D _ HKQ.out rfl
          have hO4 := HIQ.out.o4.set 0 (.bool true)
          have hcm : Calm wM.heap.size (wQ.setCell ⟨b4, 0, none⟩ (.bool true)) ((wQ.setCell ⟨b4, 0, none⟩ (.bool true)).putObj D (.deferred none)) := Calm.put _ hK2 rfl HDD.out
          have HFin : Hid (Below w.heap.size w ((wQ.setCell ⟨b4, 0, none⟩ (.bool true)).putObj D (.deferred none))) := Below.calm (HIQ.out.low.setCell (p := ⟨b4, 0, none⟩) n4.1 _) hcm (Nat.le_refl _) (by omega)
          have HK2 := Lib.hid hK2
          have HO4 := Lib.hid (hcm.own hO4)
          have hS9 := HS9.out
          have hsl : (S9.size : Int) = ((txPg p).length : Int) := by rw [hS9, bts_size]
          clear hK2 hO4 hcm HIQ HKQ
          by_cases hlen : ((txPg p).length : Int) ≤ 4000
          · have e1 : outS true (txPg p) 4000 = S9 := by unfold outS; rw [if_pos (by simpa using hlen), ← hS9]
            have e2 : errS (outE true (txPg p) 4000) = .nilIface := by unfold outE; rw [if_pos rfl, if_pos hlen]; rfl
            rw [e1, e2]
            have hk1 : ∀ w, (binOp .eql 41 .nilIface .nilIface).run Tryz.prog w = .ok (.bool true) w := fun w => by kernel_rfl
            have hl4 : ¬ (4000 : Int) < (S9.size : Int) := by omega
            clear e1 e2 hS9 hsl hlen
            gi_wp2_with fail
            refine ⟨by simp, .inl ⟨_, _, rfl, run_takeDeferred HK2.out, ?_⟩⟩
            exact ⟨.bool true, (by simp [results, Tryz.results3, go_sem, HO4.out.cell 0]), rfl, HFin.out⟩
          · have e1 : outS true (txPg p) 4000 = noText := by unfold outS; rw [if_neg (by simpa using hlen)]
            have e2 : errS (outE true (txPg p) 4000) = eno 3 := by unfold outE; rw [if_pos rfl, if_neg hlen]; rfl
            rw [e1, e2]
            have HIs := Lib.hid (Is_eno 3 3 wQ rfl true rfl)
            have hl4 : (4000 : Int) < (S9.size : Int) := by omega
            clear e1 e2 hS9 hsl hlen
            gi_wp2_with fail
            refine (callsIn_wide.2 HIs.out).mono ?_
            rintro e w' ⟨rfl, rfl⟩
            gi_wp2_with fail
            refine ⟨by simp, .inl ⟨_, _, rfl, run_takeDeferred HK2.out, ?_⟩⟩
            exact ⟨.bool true, (by simp [results, Tryz.results3, go_sem, HO4.out.cell 0]), rfl, HFin.out⟩
  | false =>
    have HF := Lib.hid hf
    have g3 := O3.out.cell 0
    have h3 := O3.out.frozen 0
    have i3 := O3.out.lt
    simp only [List.getElem?_cons_zero] at g3
    have x6 := O6.out.cell 0
    have z6 := O6.out.lt
    simp only [List.getElem?_cons_zero] at x6
    have n36 : ¬ b3 = b6 := by omega
    have n63 : ¬ b6 = b3 := by omega
    have hI0 : SpI w b2 b3 b4 b5 b6 w9.heap.size w9.heap.size w5.heap.size b5 p [.slice A p.decls.length c, .slice B p.rules.length d] [.slice A2 p.decls.length c2, .slice B2 p.rules.length d2] A2 B2 (stp : Int) (.slice none 0 0) [] 0 ((w9.setCell ⟨b3, 0, none⟩ (.int .i64 (stp : Int))).alloc (.cells #[.int .i64 0] 3)) := by
      have kb : Kept [b6, b3] w9 (w9.setCell ⟨b3, 0, none⟩ (.int .i64 (stp : Int))) := (Kept.refl _ w9).setCell (.inl (by simp)) _
      have o6' := ((Kept.refl [b3] w9).setCell (p := ⟨b3, 0, none⟩) (.inl (by simp)) (.int .i64 (stp : Int))).own O6.out (by simp; omega)
      exact spi_mk kb (by simp) O2.out O4.out O5.out (O3.out.set 0 _) o6' (TxR.nil _ _) HD9.out HB9.out (by omega) (by omega) (by omega) n34 (by omega) (by omega) (by omega)
    have y6 : (w9.setCell ⟨b3, 0, none⟩ (.int .i64 (stp : Int))).cell? ⟨b6, 0, none⟩ = some (.slice none 0 0) := (((Kept.refl [b3] w9).setCell (p := ⟨b3, 0, none⟩) (.inl (by simp)) (.int .i64 (stp : Int))).own O6.out (by simp; omega)).cell 0
    clear hf
    gi_wp2_with fail
    rw [HST.out]
    obtain ⟨b7, hb7⟩ : ∃ b, b = w9.heap.size := ⟨_, rfl⟩
    obtain ⟨wL, hwL⟩ : ∃ wL, wL = ((w9.setCell ⟨b3, 0, none⟩ (.int .i64 (stp : Int))).alloc (.cells #[.int .i64 0] 3)) := ⟨_, rfl⟩
    have n7 : b6 < b7 ∧ b5 ≤ b7 := by omega
    rw [← hwL] at hI0 ⊢
    have hI0 : SpI w b2 b3 b4 b5 b6 b7 w9.heap.size w5.heap.size b5 p [.slice A p.decls.length c, .slice B p.rules.length d] [.slice A2 p.decls.length c2, .slice B2 p.rules.length d2] A2 B2 (stp : Int) (.slice none 0 0) [] 0 wL := by
      have h := hI0
      rw [show (SpI w b2 b3 b4 b5 b6 w9.heap.size = SpI w b2 b3 b4 b5 b6 b7) by rw [hb7]] at h
      exact h
    rw [← hb7]
    have HI0 := Lib.hid hI0
    clear hI0 hwL hb7 x6 y6 z6 g3 h3 i3 O2 O3 O4 O5 O6 HB9 HD9 HST
    gi_loopw [8, 32] (fun s i wr => s = .string ⟨#[]⟩ ∧ i = .int .i64 0 ∧ Hid (Below wL.heap.size wL wr)) (fun _ _ _ => 0)
    case atStart => exact ⟨rfl, rfl, Lib.hid (Below.refl _ _)⟩
    case round =>
      obtain ⟨rfl, rfl, HBr⟩ := hrel
      have HI := Lib.hid (HI0.out.below HBr.out)
      have HLi := Lib.hid (Lines_anyS p A c B d wr (HV.out.below HI.out.low) (HS.out.below HI.out.low) (HK.out.below HI.out.low))
      rw [HF.out] at HLi
      simp only [Bool.false_eq_true, if_false] at HLi
      have c0 := HI.out.o2.cell 0
      have c1 := HI.out.o2.cell 1
      have cl := HI.out.o2.lt
      simp only [List.getElem?_cons_zero, List.getElem?_cons_succ] at c0 c1
      unfold pgV at HLi
      gi_wp2_with fail
      refine (callsIn_wide.2 HLi.out).mono ?_
      rintro e wM ⟨bs, A9, c9, rfl, hbs, hOw, hRw, q⟩
      have HIM := Lib.hid (HI.out.below q)
      have HOw := Lib.hid hOw
      have HRw := Lib.hid hRw
      have hsM := q.size
      have hwr : b7 < wr.heap.size := HI.out.o7.lt
      have hwl := HIM.out.low.size
      clear hOw hRw q HLi HI c0 c1 cl
      gi_wp2_with fail
      refine' range_law (Kp := Stay (fun k => wr.heap.size ≤ k)) (Px := fun pre x _ => (pre ++ [x]) <+: ([] : List ByteArray)) (S := fun xs => xs = []) (Sp := fun pre => pre <+: []) (encs := fun x : ByteArray => #[.string x]) rfl (by omega) (gf := 73) (lb := #[.pointer (some ⟨bs, 0, none⟩)]) rfl hF (enters_of Tryz.func73 (by kernel_rfl) rfl)
        ?seq (fun h h' => h.trans h') (fun X Y hX hc => Stay.calm hc) (fun _ => rfl)
        (fun pre X => pre.length < stp ∧ SpI w b2 b3 b4 b5 b6 b7 w9.heap.size w5.heap.size b5 p [.slice A p.decls.length c, .slice B p.rules.length d] [.slice A2 p.decls.length c2, .slice B2 p.rules.length d2] A2 B2 (stp : Int) (.slice none 0 0) [] pre.length X) (fun cd pre X => cd = Code.exit 2 ∧ pre.length = stp ∧ SpI w b2 b3 b4 b5 b6 b7 w9.heap.size w5.heap.size b5 p [.slice A p.decls.length c, .slice B p.rules.length d] [.slice A2 p.decls.length c2, .slice B2 p.rules.length d2] A2 B2 (stp : Int) (.slice none 0 0) [] pre.length X) (fun s X Y h hc => ⟨h.1, h.2.calm hc (by omega) (by omega)⟩) (fun cd s X Y h hc => ⟨h.1, h.2.1, h.2.2.calm hc (by omega) (by omega)⟩)
        (fun pre x X Y h hc => h) ⟨by simp only [List.length_nil]; omega, HIM.out⟩ _ ?assign ?body ?done ?stop
      case assign =>
        intro l x X K hK
        gi_wp2
        exact hK
      case seq =>
        intro l J Jx X hX hJ hJx hY h0'
        exact vals_inS 8 (by omega) l [] A9 c9 wr.heap.size bs (fun X => Own X bs 33 [.slice A9 0 c9] ∧ TxR wr.heap.size X (.slice A9 0 c9) []) (Stay (fun k => wr.heap.size ≤ k)) J Jx X (fun X h => ⟨h.1.cell 0, h.2⟩) (fun X Y h hb => ⟨h.1.below hb, h.2.calm (Calm.of_below 0 hb)⟩)
          (fun X Y h hs => ⟨hs.own h.1 hbs, h.2.keep (fun k o hk ho hcl => hs.block k o (h.2.lo hk).1 ho hcl)⟩) hJ hJx (fun pre x W1 h1 h2 => hY pre x W1 h1 h2) h0' ⟨HOw.out.below hX, HRw.out.calm (Calm.of_below 0 hX)⟩
      case body =>
        rintro l pre x X _ hpre
        have h := hpre.length_le
        simp at h
      case stop =>
        rintro D cd pre X hD hpre ⟨rfl, hle, hI⟩ hKD
        have h := hpre.length_le
        simp at h
        subst h
        simp at hle
        omega
      case done =>
        rintro D ys X hD rfl ⟨hls, hI⟩ hKD
        have HII := Lib.hid hI
        have HKD := Lib.hid hKD
        have HDD := Lib.hid hD
        have g2 := hI.o2.cell 0
        have g2' := hI.o2.cell 1
        have m2 := hI.o2.lt
        simp only [List.getElem?_cons_zero, List.getElem?_cons_succ] at g2 g2'
        have HPr := Lib.hid (Program_anyS p A c B d X (HV.out.below hI.low) (HS.out.below hI.low) (HK.out.below hI.low))
        rw [HF.out] at HPr
        unfold pgV GotT at HPr
        rw [outS_not, outE_not] at HPr
        have e2 : errS 2 = eno 2 := rfl
        rw [e2] at HPr
        clear hI hKD hD e2
        gi_wp2_with fail
        refine (callsIn_wide.2 HPr.out).mono ?_
        rintro e wP ⟨rfl, q⟩
        have HIP := Lib.hid (HII.out.below q)
        have HKP := Lib.hid ((q.block D (Array.getElem?_eq_some_iff.1 HKD.out).1).trans HKD.out)
        have hsP := q.size
        clear q HPr g2 g2' m2 HII HKD
        have g7 := HIP.out.o7.cell 0
        have m7 := HIP.out.o7.lt
        have g3 := HIP.out.o3.cell 0
        have m3 := HIP.out.o3.lt
        have g6 := HIP.out.o6.cell 0
        have m6 := HIP.out.o6.lt
        simp only [List.getElem?_cons_zero, List.length_nil] at g7 g3 g6
        have hmn : min (stp : Int) 0 = 0 := by omega
        have g5 := HIP.out.o5.cell 0
        have g5' := HIP.out.o5.cell 1
        have m5 := HIP.out.o5.lt
        simp only [List.getElem?_cons_zero, List.getElem?_cons_succ] at g5 g5'
        have HFo := Lib.hid (refPg_is p A2 c2 B2 d2 wP (HIP.out.doc.here))
        rw [HF.out] at HFo
        unfold pgV at HFo
        gi_wp2_with fail
        refine (callsIn_wide.2 HFo.out).mono ?_
        rintro e wQ ⟨rfl, q⟩
        have HIQ := Lib.hid (HIP.out.below q)
        have HKQ := Lib.hid ((q.block D (Array.getElem?_eq_some_iff.1 HKP.out).1).trans HKP.out)
        clear q HFo g7 m7 g3 m3 g6 m6 g5 g5' m5 HIP HKP
        have f40 := HIQ.out.o4.cell 0
        have f4f := HIQ.out.o4.frozen 0
        have f4q := HIQ.out.o4.lt
        simp only [List.getElem?_cons_zero] at f40
        have hK2 : (wQ.setCell ⟨b4, 0, none⟩ (.bool true)).heap[D]? = some (.deferred (some [])) := (KeepsOthers.setCell _ _ _).same D _ HKQ.out rfl
        have hO4 := HIQ.out.o4.set 0 (.bool true)
        have hcm : Calm wM.heap.size (wQ.setCell ⟨b4, 0, none⟩ (.bool true)) ((wQ.setCell ⟨b4, 0, none⟩ (.bool true)).putObj D (.deferred none)) := Calm.put _ hK2 rfl HDD.out
        have HFin : Hid (Below w.heap.size w ((wQ.setCell ⟨b4, 0, none⟩ (.bool true)).putObj D (.deferred none))) := Below.calm (HIQ.out.low.setCell (p := ⟨b4, 0, none⟩) n4.1 _) hcm (Nat.le_refl _) (by omega)
        have HK2 := Lib.hid hK2
        have HO4 := Lib.hid (hcm.own hO4)
        clear hK2 hO4 hcm HIQ HKQ
        have HIs := Lib.hid (Is_eno 2 2 wQ rfl true rfl)
        gi_wp2_with fail
        refine (callsIn_wide.2 HIs.out).mono ?_
        rintro e w' ⟨rfl, rfl⟩
        gi_wp2_with fail
        refine ⟨by simp, .inl ⟨_, _, rfl, run_takeDeferred HK2.out, ?_⟩⟩
        exact ⟨.bool true, (by simp [results, Tryz.results3, go_sem, HO4.out.cell 0]), rfl, HFin.out⟩
end Go.Proofs.YtikohamfnnlhcaaGreatDoor
