/- The texts of terms and kinds as rows; an atom's and a declaration's text. Conditions: the tables as laid; rows of at most 100. An atom's and a declaration's text. Conditions: the tables as laid. -/
import Derived.Test.YtikohamfnnlhcaaGreatDoorPcShoB
import Derived.Test.YtikohamfnnlhcaaGreatDoorPcLexK
import Derived.Deep.RegionHeld3
import Derived.BigRegion
set_option linter.unusedVariables false
set_option linter.unusedSimpArgs false
namespace Go.Proofs.YtikohamfnnlhcaaGreatDoor
open Go.RowKit Go.Deep Go.Shelf


set_option maxRecDepth 100000 in
set_option maxHeartbeats 1000000 in
theorem eachTm_any (A : Option Addr) (c : Nat) (l : List TTm) (w : World) (hl : l.length ≤ 100) (hV : Rg 4 TmC w A l) (hL : Lays w) :
    Calls Tryz.prog 109 #[.slice A l.length c, .func (.func 85) #[] #[]] w (NewS w (l.map txTm)) := by
  have HV := Lib.hid hV
  have HL := Lib.hid hL
  clear hV hL
  go_enter Tryz.func109, Tryz.ntmps109
  obtain ⟨i, hi, hz, hs, hb⟩ := info_parts infoStr
  go_wp2_with (at_make; refine wpList_make_full _ rfl _ _ 33 rfl w.heap.size 9 i (.string noText) 1 Tryz.underlying33 hi hz hs .i64 .i64 _ _ l.length rfl rfl rfl rfl ?b1 ?b2 ?b3 ?_)
  case b1 => rw [hb]; omega
  case b2 => unfold maxLen; omega
  case b3 => omega
  intro w1 ho hg
  clear hi hz hs hb
  rw [toList_madeCells_one] at ho
  have HN := Lib.hid (Nat.le_refl w.heap.size)
  have HB1 := Lib.hid ((Below.refl w.heap.size w).grown hg HN.out (by simp))
  have HO1 := Lib.hid (show Own w1 w.heap.size 9 ((l.take 0).map (fun x => Value.string (bts (txTm x))) ++ List.replicate (l.length - 0) (.string noText)) by simpa using Own.of_row ho rfl)
  clear ho hg
  go_wp2_with fail
  go_loopw [13] (fun i wr => ∃ k : Nat, k ≤ l.length ∧ i = .int .i64 k ∧ Hid (Own wr w.heap.size 9 ((l.take k).map (fun x => Value.string (bts (txTm x))) ++ List.replicate (l.length - k) (.string noText))) ∧ Hid (Below w.heap.size w wr)) (fun i _ => l.length - (intOf i).toNat)
  case atStart => exact ⟨0, Nat.zero_le _, rfl, HO1.out, HB1.out⟩
  case round =>
    obtain ⟨k, hk, rfl, HO, HB⟩ := hrel
    by_cases hlt : k < l.length
    · obtain ⟨b, o, rfl, hbw, hc⟩ := HV.out.at_ hlt
      have hc := hc.pers (Pers.of HB.out)
      have HS := Lib.hid (mid_set (fun x : TTm => Value.string (bts (txTm x))) (.string noText) hlt)
      
      generalize l[k] = x at *
      obtain ⟨c0, c1, c2, c3, hok⟩ := hc
      have hbl : Below w.heap.size w (wr.alloc (.cells #[.string x.v, .int .i64 x.k, .int .i64 x.n, .string x.s] 58)) := HB.out.alloc HB.out.size _
      have HQ := Lib.hid (HO.out.alloc (.cells #[.string x.v, .int .i64 x.k, .int .i64 x.n, .string x.s] 58))
      have BB := Lib.hid hbl
      have HC := Lib.hid (word_anyS x _ hok (HL.out.below hbl))
      clear hbl
      go_wp2_with fail
      refine HC.out.mono ?_
      rintro e w2 ⟨rfl, b2⟩
      have HO2 := Lib.hid (HQ.out.below b2)
      have B2 := Lib.hid (BB.out.trans (b2.mono BB.out.size))
      clear b2 hbw HO HQ BB HB HC c0 c1 c2 c3
      have q0 := (HO2.out.cell k).trans (mid_at _ _ hlt)
      have q1 := HO2.out.frozen k
      have q2 := HO2.out.lt
      go_wp2
      go_roundw
      case rel => exact ⟨k + 1, by omega, by go_num, HS.out ▸ (HO2.out.set k _), B2.out.setCell HN.out _⟩
      case measure => simp [intOf]; omega
    · have hkl : k = l.length := by omega
      subst hkl
      have HQ := HO.out
      simp only [List.take_length, Nat.sub_self, List.replicate_zero, List.append_nil] at HQ
      have HQ := Lib.hid HQ
      clear HO
      go_wp2_with fail
      go_ret
      exact ⟨w.heap.size, by simp, Nat.le_refl _, by rw [List.map_map]; exact HQ.out, HB.out⟩


set_option maxRecDepth 100000 in
theorem kind_any (k : Int) (w : World) (hk : k = 1 ∨ k = 2) (hT : StrTab w 3 kindsL) :
    Calls Tryz.prog 106 #[.int .i64 k] w fun e w' => e = .returned (.string (bts (kindX k))) ∧ Below w.heap.size w w' := by
  have hlt := hT.1
  rcases hk with rfl | rfl
  · have h1 := hT.2 1 _ rfl
    go_enter Tryz.func106, Tryz.ntmps106
    go_wp2
    go_ret
    exact ⟨rfl, Below.refl _ _⟩
  · have h1 := hT.2 2 _ rfl
    go_enter Tryz.func106, Tryz.ntmps106
    go_wp2
    go_ret
    exact ⟨rfl, Below.refl _ _⟩


set_option maxRecDepth 100000 in
set_option maxHeartbeats 1000000 in
theorem eachK_any (A : Option Addr) (c : Nat) (l : List Int) (w : World) (hl : l.length ≤ 100) (hV : Rg 1 IntC w A l) (hk : ∀ k ∈ l, k = 1 ∨ k = 2) (hT : StrTab w 3 kindsL) :
    Calls Tryz.prog 105 #[.slice A l.length c, .func (.func 106) #[] #[]] w (NewS w (l.map kindX)) := by
  have HV := Lib.hid hV
  have HT := Lib.hid hT
  have HK := Lib.hid hk
  clear hV hk hT
  go_enter Tryz.func105, Tryz.ntmps105
  obtain ⟨i, hi, hz, hs, hb⟩ := info_parts infoStr
  go_wp2_with (at_make; refine wpList_make_full _ rfl _ _ 33 rfl w.heap.size 9 i (.string noText) 1 Tryz.underlying33 hi hz hs .i64 .i64 _ _ l.length rfl rfl rfl rfl ?b1 ?b2 ?b3 ?_)
  case b1 => rw [hb]; omega
  case b2 => unfold maxLen; omega
  case b3 => omega
  intro w1 ho hg
  clear hi hz hs hb
  rw [toList_madeCells_one] at ho
  have HN := Lib.hid (Nat.le_refl w.heap.size)
  have HB1 := Lib.hid ((Below.refl w.heap.size w).grown hg HN.out (by simp))
  have HO1 := Lib.hid (show Own w1 w.heap.size 9 ((l.take 0).map (fun x => Value.string (bts (kindX x))) ++ List.replicate (l.length - 0) (.string noText)) by simpa using Own.of_row ho rfl)
  clear ho hg
  go_wp2_with fail
  go_loopw [13] (fun i wr => ∃ k : Nat, k ≤ l.length ∧ i = .int .i64 k ∧ Hid (Own wr w.heap.size 9 ((l.take k).map (fun x => Value.string (bts (kindX x))) ++ List.replicate (l.length - k) (.string noText))) ∧ Hid (Below w.heap.size w wr)) (fun i _ => l.length - (intOf i).toNat)
  case atStart => exact ⟨0, Nat.zero_le _, rfl, HO1.out, HB1.out⟩
  case round =>
    obtain ⟨k, hk, rfl, HO, HB⟩ := hrel
    by_cases hlt : k < l.length
    · obtain ⟨b, o, rfl, hbw, hc⟩ := HV.out.at_ hlt
      have hc := (Pers.of HB.out).2 _ _ hc
      have HS := Lib.hid (mid_set (fun x : Int => Value.string (bts (kindX x))) (.string noText) hlt)
      have hok := HK.out l[k] (List.getElem_mem hlt)
      generalize l[k] = x at *
      rw [Nat.mul_one] at hc
      have c0 := hc
      have hbl := HB.out
      have HQ := HO
      have BB := Lib.hid hbl
      have HC := Lib.hid (kind_any x _ hok (HT.out.below hbl))
      clear hbl
      go_wp2_with fail
      refine HC.out.mono ?_
      rintro e w2 ⟨rfl, b2⟩
      have HO2 := Lib.hid (HQ.out.below b2)
      have B2 := Lib.hid (BB.out.trans (b2.mono BB.out.size))
      clear b2 hbw HO HQ BB HB HC c0 hc
      have q0 := (HO2.out.cell k).trans (mid_at _ _ hlt)
      have q1 := HO2.out.frozen k
      have q2 := HO2.out.lt
      go_wp2
      go_roundw
      case rel => exact ⟨k + 1, by omega, by go_num, HS.out ▸ (HO2.out.set k _), B2.out.setCell HN.out _⟩
      case measure => simp [intOf]; omega
    · have hkl : k = l.length := by omega
      subst hkl
      have HQ := HO.out
      simp only [List.take_length, Nat.sub_self, List.replicate_zero, List.append_nil] at HQ
      have HQ := Lib.hid HQ
      clear HO
      go_wp2_with fail
      go_ret
      exact ⟨w.heap.size, by simp, Nat.le_refl _, by rw [List.map_map]; exact HQ.out, HB.out⟩


end Go.Proofs.YtikohamfnnlhcaaGreatDoor

set_option linter.unusedVariables false
set_option linter.unusedSimpArgs false
namespace Go.Proofs.YtikohamfnnlhcaaGreatDoor
open Go.RowKit Go.Deep Go.Shelf

/-- a box of two cells that are looked at. -/
abbrev Bx2 (wa : World) (b : Nat) (x y : Value) (W : World) : Prop := W.cell? ⟨b, 0, none⟩ = some x ∧ W.cell? ⟨b, 1, none⟩ = some y ∧ b < W.heap.size ∧ Below wa.heap.size wa W
theorem Bx2.step {wa : World} {b : Nat} {x y : Value} {W W' : World} (h : Bx2 wa b x y W) (hb : Below W.heap.size W W') : Bx2 wa b x y W' := by
  obtain ⟨z0, z1, l1, hl⟩ := h
  exact ⟨(hb.cell (p := ⟨b, _, none⟩) l1).trans z0, (hb.cell (p := ⟨b, _, none⟩) l1).trans z1, Nat.lt_of_lt_of_le l1 hb.size, hl.trans (hb.mono hl.size)⟩
theorem Bx2.low {wa : World} {b : Nat} {x y : Value} {W : World} (h : Bx2 wa b x y W) : Below wa.heap.size wa W := h.2.2.2
set_option maxRecDepth 100000 in
set_option maxHeartbeats 1000000 in
theorem atom_anyS (a : TAm) (A : Option Addr) (c : Nat) (w : World) (hr : rightAm a = true) (hV : AmV w a A) (hL : Lays w) :
    Calls Tryz.prog 83 #[amV a A c] w fun e w' => e = .returned (.string (bts (txAm a))) ∧ Below w.heap.size w w' := by
  obtain ⟨h1, h2, h3⟩ := rightAm_parts hr
  have hj := join_le (b := 32) (L := a.args.map txTm) (fun t ht => by
    obtain ⟨y, hy, rfl⟩ := List.mem_map.1 ht
    exact rightTm_len (h3 y hy))
  have hjl : (Lib.join (a.args.map txTm) [44, 32]).length ≤ 100000 := by
    rw [List.length_map] at hj
    have := Nat.mul_le_mul_right (32 + 2) h2
    omega
  have hb : Below w.heap.size w (w.alloc (.cells #[.string a.rel, .slice A a.args.length c] 49)) := (Below.refl _ _).alloc (Nat.le_refl _) _
  have HO : Hid (Own (w.alloc (.cells #[.string a.rel, .slice A a.args.length c] 49)) w.heap.size 49 [.string a.rel, .slice A a.args.length c]) := heap_alloc_new _ _
  obtain ⟨z, hz⟩ : ∃ z, z = bts (txAm a) := ⟨_, rfl⟩
  have HZ := Lib.hid hz
  have hal : a.args.length ≤ 100 := by omega
  obtain ⟨xs, hxs⟩ : ∃ xs, xs = a.args.map txTm := ⟨_, rfl⟩
  have CE : Hid (∀ W, Below w.heap.size w W → Calls Tryz.prog 109 #[.slice A a.args.length c, .func (.func 85) #[] #[]] W (NewS W xs)) := fun W hW => hxs ▸ eachTm_any A c a.args W hal (hV.below hW).row (hL.below hW)
  have CL : Hid (∀ g W, Own W g 9 (xs.map fun x => .string (bts x)) → Calls Tryz.prog 104 #[.string a.rel, .slice (some ⟨g, 0, none⟩) xs.length xs.length] W fun e w' => e = .returned (.string z) ∧ Below W.heap.size W w') := fun g W ho => by
    rw [hz]
    unfold txAm
    rw [← hxs] at hjl ⊢
    exact list_anyS a.rel g xs W ho (by omega) (by rw [hxs, List.length_map]; omega) hjl
  have HB := Lib.hid hb
  have mixed : Tryz.prog.follows .mixedOrders = true := by kernel_rfl
  clear hb hV hL hr h1 h2 h3 hj hjl hal hz hxs
  go_enter Tryz.func83, Tryz.ntmps83
  go_wp2_with fail
  obtain ⟨wa, hwa⟩ : ∃ wa, wa = w.alloc (.cells #[.string a.rel, .slice A a.args.length c] 49) := ⟨_, rfl⟩
  rw [← hwa] at HO HB ⊢
  clear hwa
  obtain ⟨b, hbq⟩ : ∃ b, b = w.heap.size := ⟨_, rfl⟩
  rw [← hbq] at HO ⊢
  clear hbq
  have hS : Bx2 wa b (.string a.rel) (.slice A a.args.length c) wa := ⟨HO.out.cell 0, HO.out.cell 1, HO.out.lt, Below.refl _ _⟩
  have HS := Lib.hid hS
  have HBl : Hid (∀ W, Below wa.heap.size wa W → Below w.heap.size w W) := fun W h => HB.out.trans (h.mono HB.out.size)
  clear HO
  go_region_held3 (fun w' => w'.cell? ⟨b, 0, none⟩ = some (.string a.rel) ∧ w'.cell? ⟨b, 1, none⟩ = some (.slice A a.args.length c) ∧ b < w'.heap.size ∧ Below wa.heap.size wa w')
    (first | (with_reducible assumption) | (with_reducible exact HS.out.step (Below.refl _ _).drew) | (with_reducible exact Bx2.step (by assumption) hb) | go_keep)
    (first
      | (go_at_call 109; refine (CE.out _ ?_).mono ?_; exact HBl.out _ (Bx2.low (by assumption)); rintro e w' ⟨g, rfl, hg, ho, hb⟩; have HO9 := Lib.hid ho; clear ho hg)
      | (go_at_call 104; refine (CL.out _ _ HO9.out).mono ?_; rintro e w' ⟨rfl, hb⟩))
  all_goals
    go_wp2
    go_ret
    exact ⟨ret_str HZ.out, HBl.out _ (Bx2.low (by assumption))⟩
set_option maxRecDepth 100000 in
set_option maxHeartbeats 1000000 in
theorem decl_any (d : TDe) (A : Option Addr) (c : Nat) (w : World) (hr : rightDe d = true) (hV : Rg 1 IntC w A d.kinds) (hT : StrTab w 3 kindsL) :
    Calls Tryz.prog 72 #[.agg #[.string d.rel, .slice A d.kinds.length c, .int .i64 d.pos]] w fun e w' => e = .returned (.string (bts (txDe d))) ∧ Below w.heap.size w w' := by
  obtain ⟨h1, h2, h3⟩ := rightDe_parts hr
  have hj := join_le (b := 3) (L := d.kinds.map kindX) (fun t ht => by
    obtain ⟨y, hy, rfl⟩ := List.mem_map.1 ht
    exact kindX_len y)
  have hjl : (Lib.join (d.kinds.map kindX) [44, 32]).length ≤ 1000 := by
    rw [List.length_map] at hj
    have := Nat.mul_le_mul_right (3 + 2) h2
    omega
  have hb : Below w.heap.size w (w.alloc (.cells #[.string d.rel, .slice A d.kinds.length c, .int .i64 d.pos] 100)) := (Below.refl _ _).alloc (Nat.le_refl _) _
  have HO : Hid (Own (w.alloc (.cells #[.string d.rel, .slice A d.kinds.length c, .int .i64 d.pos] 100)) w.heap.size 100 [.string d.rel, .slice A d.kinds.length c, .int .i64 d.pos]) := heap_alloc_new _ _
  obtain ⟨z, hz⟩ : ∃ z, z = bts (d.rel.data.toList ++ ([40] ++ (Lib.join (d.kinds.map kindX) [44, 32] ++ [41]))) := ⟨_, rfl⟩
  have HZ : Hid (⟨#[114, 101, 108, 32]⟩ ++ z ++ ⟨#[46]⟩ = bts (txDe d)) := by
    show _ = _
    rw [hz]
    apply ByteArray.ext
    simp [bts, txDe]
  have hzs : z.size ≤ 100000 := by
    rw [hz, bts_size]
    have : d.rel.data.toList.length = d.rel.size := by simp
    simp only [List.length_append, List.length_cons, List.length_nil]
    omega
  have hal : d.kinds.length ≤ 100 := by omega
  obtain ⟨xs, hxs⟩ : ∃ xs, xs = d.kinds.map kindX := ⟨_, rfl⟩
  have CE : Hid (∀ W, Below w.heap.size w W → Calls Tryz.prog 105 #[.slice A d.kinds.length c, .func (.func 106) #[] #[]] W (NewS W xs)) := fun W hW => hxs ▸ eachK_any A c d.kinds W hal (hV.int (Pers.of hW)) h3 (hT.below hW)
  have CL : Hid (∀ g W, Own W g 9 (xs.map fun x => .string (bts x)) → Calls Tryz.prog 104 #[.string d.rel, .slice (some ⟨g, 0, none⟩) xs.length xs.length] W fun e w' => e = .returned (.string z) ∧ Below W.heap.size W w') := fun g W ho => by
    rw [hz]
    rw [← hxs] at hjl ⊢
    exact list_anyS d.rel g xs W ho (by omega) (by rw [hxs, List.length_map]; omega) (by omega)
  have HB := Lib.hid hb
  have mixed : Tryz.prog.follows .mixedOrders = true := by kernel_rfl
  have n1 : 4 + z.size ≤ 9223372036854775807 := by omega
  have n2 : 4 + z.size ≤ 9223372036854775806 := by omega
  clear hb hV hT hr h1 h2 h3 hj hjl hal hz hxs hzs
  go_enter Tryz.func72, Tryz.ntmps72
  go_wp2_with fail
  obtain ⟨wa, hwa⟩ : ∃ wa, wa = w.alloc (.cells #[.string d.rel, .slice A d.kinds.length c, .int .i64 d.pos] 100) := ⟨_, rfl⟩
  rw [← hwa] at HO HB ⊢
  clear hwa
  obtain ⟨b, hbq⟩ : ∃ b, b = w.heap.size := ⟨_, rfl⟩
  rw [← hbq] at HO ⊢
  clear hbq
  have hS : Bx2 wa b (.string d.rel) (.slice A d.kinds.length c) wa := ⟨HO.out.cell 0, HO.out.cell 1, HO.out.lt, Below.refl _ _⟩
  have HBl : Hid (∀ W, Below wa.heap.size wa W → Below w.heap.size w W) := fun W h => HB.out.trans (h.mono HB.out.size)
  have hS0 := hS.step (Below.refl _ _).drew
  clear HO hS
  first | (go_region_with (first
    | (go_at_call 105; refine (CE.out _ ?_).mono ?_; exact HBl.out _ (Bx2.low (by assumption)); rintro e w' ⟨g, rfl, hg, ho, hb⟩; have HO9 := Lib.hid ho; have hS1 := Bx2.step (by assumption) hb; clear hb ho hg)
    | (go_at_call 104; refine (CL.out _ _ HO9.out).mono ?_; rintro e w' ⟨rfl, hb⟩; have hS2 := Bx2.step (by assumption) hb; clear hb))) | fail
  all_goals
    go_wp2
    go_ret
    exact ⟨ret_str HZ.out, HBl.out _ (Bx2.low (by assumption))⟩
end Go.Proofs.YtikohamfnnlhcaaGreatDoor
