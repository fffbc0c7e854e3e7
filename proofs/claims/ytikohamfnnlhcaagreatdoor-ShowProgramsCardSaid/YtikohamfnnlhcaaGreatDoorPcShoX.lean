/- The document's lines of a program. Conditions: a well-formed program. -/
import Derived.Test.YtikohamfnnlhcaaGreatDoorScH
import Derived.Test.YtikohamfnnlhcaaGreatDoorPcShoM
set_option linter.unusedVariables false
set_option linter.unusedSimpArgs false
namespace Go.Proofs.YtikohamfnnlhcaaGreatDoor
open Go.RowKit Go.Deep Go.Shelf

/-- one more text in a row of its own. -/
theorem TxR.push {n0 : Nat} {W w1 : World} {v v' : Value} {pre : List ByteArray} {x : ByteArray} {tmp : Obj} (hr : TxR n0 W v pre) (hn : n0 ≤ W.heap.size) (ho : w1.ownsRow n0 9 1 v' (pre.length + 1) (pre.map .string ++ [.string x])) (hg : (W.alloc tmp).grownBy w1 v.ownBlock) : TxR n0 w1 v' (pre ++ [x]) ∧ Below n0 W w1 := by
  refine ⟨?_, ?_⟩
  · unfold TxR
    simp only [List.length_append, List.length_cons, List.length_nil, List.map_append, List.map_cons, List.map_nil]
    exact ho
  · have kw1 : Kept v.ownBlock.toList W w1 := ((Kept.refl v.ownBlock.toList W).alloc tmp).trans (Kept.grown hg (fun k hk => by rw [hk]; simp)) (fun k hk => .inl hk)
    exact kw1.below hn (fun k hk => (hr.lo (by simpa using hk)).1)
/-- a declaration's text, its first kinds. -/
def deX (d : TDe) (k : Nat) : List UInt8 := [114, 101, 108, 32] ++ (d.rel.data.toList ++ ([40] ++ Lib.join ((d.kinds.map kindX).take k) [44, 32]))
theorem deX_end (d : TDe) : deX d d.kinds.length ++ [41, 46] = txDe d := by
  unfold deX txDe
  rw [show (d.kinds.map kindX).take d.kinds.length = d.kinds.map kindX by rw [← List.length_map (f := kindX), List.take_length]]
  simp only [List.append_assoc]
theorem deX_zero (d : TDe) : deX d 0 = [114, 101, 108, 32] ++ (d.rel.data.toList ++ [40]) := by
  unfold deX
  rw [List.take_zero, Lib.join_nil]
  rfl
theorem deX_snoc (d : TDe) {k : Nat} (h : k < d.kinds.length) : deX d (k + 1) = deX d k ++ ((if k = 0 then [] else [44, 32]) ++ kindX d.kinds[k]) := by
  unfold deX
  have h2 := join_snoc (l := d.kinds.map kindX) (k := k) (by rw [List.length_map]; exact h)
  rw [h2, List.getElem_map]
  simp only [List.append_assoc]
theorem deX_len {d : TDe} (h : rightDe d = true) (k : Nat) : (deX d k).length ≤ 200 := by
  obtain ⟨h1, h2, _⟩ := rightDe_parts h
  have hj := join_le (b := 3) (L := (d.kinds.map kindX).take k) (fun t ht => by
    obtain ⟨y, hy, rfl⟩ := List.mem_map.1 (List.mem_of_mem_take ht)
    exact kindX_len y)
  have h3 : ((d.kinds.map kindX).take k).length ≤ 6 := by rw [List.length_take, List.length_map]; omega
  have h4 := Nat.mul_le_mul_right (3 + 2) h3
  have hs : d.rel.data.toList.length = d.rel.size := by simp
  unfold deX
  simp only [List.length_append, List.length_cons, List.length_nil]
  omega
set_option maxRecDepth 100000 in
set_option maxHeartbeats 4000000 in
theorem rxLines (p : TPg) (A : Option Addr) (c : Nat) (B : Option Addr) (d : Nat) (w : World) (hf : formedB p = true) (hV : PgV w p A B) :
    Calls Tryz.prog 10 #[pgV p A c B d] w fun e w' => ∃ A0 c0, e = .returned (.slice A0 (linesX p).length c0) ∧ TxR w.heap.size w' (.slice A0 (linesX p).length c0) ((linesX p).map bts) ∧ Below w.heap.size w w' := by
  have mixed : Tryz.prog.follows .mixedOrders = true := by kernel_rfl
  obtain ⟨hd32, hdr, hr64, hrr⟩ := formed_parts hf
  obtain ⟨i0, hi0, hz0, hzs, hzb⟩ := info_parts infoStrS
  have hb : Below w.heap.size w (w.alloc (.cells #[.slice A p.decls.length c, .slice B p.rules.length d] 31)) := (Below.refl _ _).alloc (Nat.le_refl _) _
  have ho : Own (w.alloc (.cells #[.slice A p.decls.length c, .slice B p.rules.length d] 31)) w.heap.size 31 [.slice A p.decls.length c, .slice B p.rules.length d] := heap_alloc_new _ _
  obtain ⟨w1, hw1⟩ : ∃ w1, w1 = (w.alloc (.cells #[.slice A p.decls.length c, .slice B p.rules.length d] 31)) := ⟨_, rfl⟩
  rw [← hw1] at hb ho
  have p0 := ho.cell 0
  have p1 := ho.cell 1
  have pl := ho.lt
  simp only [List.getElem?_cons_zero, List.getElem?_cons_succ] at p0 p1
  have hsz1 : w1.heap.size = w.heap.size + 1 := by rw [hw1]; simp
  have HB := Lib.hid hb
  have HV := Lib.hid (hV.below hb)
  have HDr := Lib.hid hdr
  have HRr := Lib.hid hrr
  have HLd := Lib.hid (fun k h => linesX_decl (p := p) (k := k) h)
  have HLr := Lib.hid (fun k n h h' => linesX_rule (p := p) (k := k) (n := n) h h')
  have HLl := Lib.hid (linesX_len (p := p))
  unfold pgV
  clear hV hb ho hdr hrr hf
  generalize linesX p = LL at *
  go_enter Tryz.func10, Tryz.ntmps10
  go_wp2_with fail
  rw [← hw1]
  obtain ⟨b, hbb⟩ : ∃ b, b = w.heap.size := ⟨_, rfl⟩
  rw [← hbb] at p0 p1 pl
  repeat rw [show (Value.pointer (some ⟨w.heap.size, 0, none⟩)) = .pointer (some ⟨b, 0, none⟩) by rw [hbb]]
  clear hw1 hbb
  have P1w := Lib.hid p1
  go_loopw [3, 4] (fun o i wr => ∃ (k : Nat) (A0 : Option Addr) (c0 : Nat) (xs : List ByteArray), k ≤ p.decls.length ∧ o = .slice A0 k c0 ∧ i = .int .i64 k ∧ Hid (xs = (LL.take k).map bts) ∧ Hid (xs.length = k) ∧ Hid (TxR w1.heap.size wr (.slice A0 k c0) xs) ∧ Hid (Below w1.heap.size w1 wr)) (fun _ i _ => p.decls.length - (intOf i).toNat)
  case atStart => exact ⟨0, none, 0, [], Nat.zero_le _, rfl, rfl, Lib.hid rfl, Lib.hid rfl, Lib.hid (TxR.nil _ _), Lib.hid (Below.refl _ _)⟩
  case round =>
    obtain ⟨k9, A0, c0, xs, hk, rfl, rfl, HX, HXl, HR, HBr⟩ := hrel
    have hqb : b < wr.heap.size := Nat.lt_of_lt_of_le pl HBr.out.size
    have p0 := (HBr.out.cell (p := ⟨b, _, none⟩) pl).trans p0
    have p1 := (HBr.out.cell (p := ⟨b, _, none⟩) pl).trans p1
    by_cases hlt : k9 < p.decls.length
    · obtain ⟨g, o, hA, hgw, d0, ⟨KA, kc, d1, hKr⟩, d2, hrl⟩ := (HV.out.pers (.of HBr.out)).decls.at_ hlt
      rw [hA] at p0
      have hLd := HLd.out k9 hlt
      have hrd := HDr.out _ (List.getElem_mem hlt)
      have HKr := Lib.hid hKr
      have HRd := Lib.hid hrd
      have HLj := Lib.hid hLd
      have hgr : g < wr.heap.size := hgw
      clear hLd hrd hKr
      generalize p.decls[k9] = de at *
      have hsr : de.rel.size ≤ 32 := (rightDe_parts HRd.out).1
      have hkn : de.kinds.length ≤ 6 := (rightDe_parts HRd.out).2.1
      have HK2 := Lib.hid (rightDe_parts HRd.out).2.2
      have HS0 : Hid (⟨#[114, 101, 108, 32]⟩ ++ de.rel ++ ⟨#[40]⟩ = bts (deX de 0)) := by
        show _ = _
        rw [deX_zero]
        apply ByteArray.ext
        apply Array.ext'
        simp [bts]
      have HLn := Lib.hid (fun k => deX_len HRd.out k)
      clear hA
      go_wp2_with fail
      obtain ⟨S9, hS9⟩ : ∃ S9, S9 = ⟨#[114, 101, 108, 32]⟩ ++ de.rel ++ ⟨#[40]⟩ := ⟨_, rfl⟩
      rw [← hS9] at HS0 ⊢
      clear hS9
      go_loopw [5, 6] (fun s i wr2 => ∃ j : Nat, j ≤ de.kinds.length ∧ s = .string (bts (deX de j)) ∧ i = .int .i64 j ∧ Hid (Below wr.heap.size wr wr2)) (fun _ i _ => de.kinds.length - (intOf i).toNat)
      case atStart => exact ⟨0, Nat.zero_le _, by rw [HS0.out], rfl, Lib.hid (Below.refl _ _)⟩
      case round =>
        clear HS0
        obtain ⟨j9, hj, rfl, rfl, HBj⟩ := hrel
        have hqj : b < wr.heap.size := Nat.lt_of_lt_of_le hqb HBj.out.size
        have hgj : g < wr.heap.size := Nat.lt_of_lt_of_le hgr HBj.out.size
        have p0 := (HBj.out.cell (p := ⟨b, _, none⟩) hqb).trans p0
        have p1 := (HBj.out.cell (p := ⟨b, _, none⟩) hqb).trans p1
        have d0 := (HBj.out.cell (p := ⟨g, _, none⟩) hgr).trans d0
        have d1 := (HBj.out.cell (p := ⟨g, _, none⟩) hgr).trans d1
        have d2 := (HBj.out.cell (p := ⟨g, _, none⟩) hgr).trans d2
        have hsz : (bts (deX de j9)).size ≤ 200 := by rw [bts_size]; exact HLn.out j9
        by_cases hjl : j9 < de.kinds.length
        · obtain ⟨kb, ko, hKA, hkw, hkc⟩ := (HKr.out.int (.of HBj.out)).at_ hjl
          rw [hKA] at d1
          have hz := HK2.out _ (List.getElem_mem hjl)
          have HNx : Hid (bts (deX de (j9 + 1)) = bts (deX de j9) ++ (bts (if j9 = 0 then [] else [44, 32]) ++ bts (kindX de.kinds[j9]))) := by
            show _ = _
            rw [deX_snoc de hjl, bts_app, bts_app]
          have hkc : wr.cell? ⟨kb, ko + j9, none⟩ = some (.int .i64 de.kinds[j9]) := by have h := hkc; unfold IntC at h; rwa [Nat.mul_one] at h
          clear hKA
          generalize de.kinds[j9] = z at *
          obtain ⟨S0, hS0⟩ : ∃ S0, S0 = bts (deX de j9) := ⟨_, rfl⟩
          rw [← hS0] at hsz HNx ⊢
          clear hS0 hrl
          rcases hz with hz | hz
          · subst hz
            by_cases hj0 : j9 = 0
            · have hj1 : ¬ (0 : Int) < (j9 : Int) := by omega
              have HNy : Hid (bts (deX de (j9 + 1)) = S0 ++ ⟨#[105, 110, 116]⟩) := by
                show _ = _
                rw [HNx.out]
                rw [if_pos hj0]
                apply ByteArray.ext
                simp [bts, kindX]
              clear HNx hj0
              go_wp2
              go_roundw
              case rel => exact ⟨j9 + 1, by omega, by rw [HNy.out], by go_num, Lib.hid (HBj.out.alloc HBj.out.size _)⟩
              case measure => simp [intOf]; omega
            · have hj1 : (0 : Int) < (j9 : Int) := by omega
              have HNy : Hid (bts (deX de (j9 + 1)) = S0 ++ ⟨#[44, 32]⟩ ++ ⟨#[105, 110, 116]⟩) := by
                show _ = _
                rw [HNx.out]
                rw [if_neg hj0]
                apply ByteArray.ext
                simp [bts, kindX]
              clear HNx hj0
              go_wp2
              go_roundw
              case rel => exact ⟨j9 + 1, by omega, by rw [HNy.out], by go_num, Lib.hid (HBj.out.alloc HBj.out.size _)⟩
              case measure => simp [intOf]; omega
          · subst hz
            by_cases hj0 : j9 = 0
            · have hj1 : ¬ (0 : Int) < (j9 : Int) := by omega
              have HNy : Hid (bts (deX de (j9 + 1)) = S0 ++ ⟨#[115, 121, 109]⟩) := by
                show _ = _
                rw [HNx.out]
                rw [if_pos hj0]
                apply ByteArray.ext
                simp [bts, kindX]
              clear HNx hj0
              go_wp2
              go_roundw
              case rel => exact ⟨j9 + 1, by omega, by rw [HNy.out], by go_num, Lib.hid (HBj.out.alloc HBj.out.size _)⟩
              case measure => simp [intOf]; omega
            · have hj1 : (0 : Int) < (j9 : Int) := by omega
              have HNy : Hid (bts (deX de (j9 + 1)) = S0 ++ ⟨#[44, 32]⟩ ++ ⟨#[115, 121, 109]⟩) := by
                show _ = _
                rw [HNx.out]
                rw [if_neg hj0]
                apply ByteArray.ext
                simp [bts, kindX]
              clear HNx hj0
              go_wp2
              go_roundw
              case rel => exact ⟨j9 + 1, by omega, by rw [HNy.out], by go_num, Lib.hid (HBj.out.alloc HBj.out.size _)⟩
              case measure => simp [intOf]; omega
        · have hje : j9 = de.kinds.length := by omega
          subst hje
          have HEnd : Hid (bts (deX de de.kinds.length) ++ ⟨#[41, 46]⟩ = bts (txDe de)) := by
            show _ = _
            rw [← deX_end]
            apply ByteArray.ext
            simp [bts]
          generalize bts (deX de de.kinds.length) = S0 at *
          have HRj : Hid (TxR w1.heap.size wr (.slice A0 k9 c0) xs) := HR.out.calm (Calm.of_below 0 HBj.out)
          have HBw := Lib.hid (HBr.out.trans (HBj.out.mono HBr.out.size))
          have HXn : Hid (xs ++ [S0 ++ ⟨#[41, 46]⟩] = (LL.take (k9 + 1)).map bts) := by
            show _ = _
            obtain ⟨h1, h2⟩ := List.getElem?_eq_some_iff.1 HLj.out
            rw [List.take_succ_eq_append_getElem h1, List.map_append, ← HX.out, h2, HEnd.out]
            rfl
          clear hrl
          have HO : Hid ((wr.alloc (.cells #[.string (S0 ++ ⟨#[41, 46]⟩)] 9)).ownsRow w1.heap.size 9 1 (.slice A0 k9 c0) k9 (xs.map .string)) := by
            have h := HRj.out.calm (Calm.alloc 0 wr (.cells #[.string (S0 ++ ⟨#[41, 46]⟩)] 9))
            unfold TxR at h
            rw [HXl.out] at h
            exact h
          have hnews : ∀ j u, [Value.string (S0 ++ ⟨#[41, 46]⟩)][j]? = some u → (wr.alloc (.cells #[.string (S0 ++ ⟨#[41, 46]⟩)] 9)).cell? ((⟨wr.heap.size, 0, none⟩ : Addr).add j) = some u := fun j u hj => by
            have hv : Own (wr.alloc (.cells #[.string (S0 ++ ⟨#[41, 46]⟩)] 9)) wr.heap.size 9 [.string (S0 ++ ⟨#[41, 46]⟩)] := heap_alloc_new _ _
            rw [Addr.add_lit, Nat.zero_add, hv.cell]
            exact hj
          have HNw := Lib.hid hnews
          have hws0 : w1.heap.size ≤ wr.heap.size := HBw.out.size
          have hws : w1.heap.size ≤ (wr.alloc (.cells #[.string (S0 ++ ⟨#[41, 46]⟩)] 9)).heap.size := by simp; omega
          have hb1 : k9 + 1 ≤ maxLen := by unfold maxLen; omega
          have hb2 : (k9 + 1) * 16 ≤ 140737488355328 := by omega
          have hone : ∀ u ∈ [Value.string (S0 ++ ⟨#[41, 46]⟩)], u.oneCell' = true := by simp [Value.oneCell']
          clear hnews
          go_wp2_with (at_builtin; refine wpList_append_own_at _ rfl _ _ 33 rfl w1.heap.size 9 i0 _ 1 16 Tryz.underlying33 hi0 hz0 hzs hzb rfl (by decide) (.slice A0 k9 c0) k9 (xs.map .string) rfl HO.out ⟨wr.heap.size, 0, none⟩ 1 1 [.string (S0 ++ ⟨#[41, 46]⟩)] rfl rfl HNw.out hone hb1 hb2 hws ?_; intro v' w3 ho hg _ hat; obtain ⟨g1, cap1, rfl⟩ := owns_valS ho; have HQ := Lib.hid (TxR.push HRj.out hws0 (by rw [HXl.out]; exact ho) hg); clear ho hg hat)
          go_roundw
          case rel => exact ⟨k9 + 1, some ⟨g1, 0, none⟩, cap1, xs ++ [S0 ++ ⟨#[41, 46]⟩], by omega, rfl, by go_num, HXn, Lib.hid (by have := HXl.out; simp; omega), Lib.hid HQ.out.1, Lib.hid (HBw.out.trans HQ.out.2)⟩
          case measure => simp [intOf]; omega
    · have hke : k9 = p.decls.length := by omega
      subst hke
      have HR0 := HR
      have HX0 := HX
      have HXl0 := HXl
      have HBr0 := HBr
      clear hlt hk
      go_wp2_with fail
      clear HR HX HXl
      go_loopw [3, 7] (fun o i wr2 => ∃ (k : Nat) (A0 : Option Addr) (c0 : Nat) (xs : List ByteArray), k ≤ p.rules.length ∧ o = .slice A0 (p.decls.length + k) c0 ∧ i = .int .i64 k ∧ Hid (xs = (LL.take (p.decls.length + k)).map bts) ∧ Hid (xs.length = p.decls.length + k) ∧ Hid (TxR w1.heap.size wr2 (.slice A0 (p.decls.length + k) c0) xs) ∧ Hid (Below w1.heap.size w1 wr2)) (fun _ i _ => p.rules.length - (intOf i).toNat)
      case atStart => exact ⟨0, A0, c0, xs, Nat.zero_le _, rfl, rfl, HX0, HXl0, HR0, HBr0⟩
      case round =>
        clear HR0 HX0 HXl0 hqb p0 p1
        obtain ⟨k9, A0, c0, xs, hk, rfl, rfl, HX, HXl, HR, HBr2⟩ := hrel
        have p1 := (HBr2.out.cell (p := ⟨b, _, none⟩) pl).trans P1w.out
        have hqb : b < wr.heap.size := Nat.lt_of_lt_of_le pl HBr2.out.size
        by_cases hlt : k9 < p.rules.length
        · obtain ⟨g, o, hA, hgw, hcr⟩ := (HV.out.pers (.of HBr2.out)).rules.at_ hlt
          obtain ⟨XA, xc, XB, xd, d0, d1, d2, d3, d4, d5, hVr⟩ := hcr.open_
          rw [hA] at p1
          have HRd := Lib.hid (HRr.out _ (List.getElem_mem hlt))
          have HLj := Lib.hid (HLr.out k9 _ hlt rfl)
          have HC := Lib.hid (rxRu p.rules[k9] XA xc XB xd wr HRd.out hVr)
          have HLn := Lib.hid (rightRu_len HRd.out)
          clear hA hcr hVr
          generalize p.rules[k9] = ru at *
          unfold ruV at HC
          go_wp2_with fail
          refine HC.out.mono ?_
          rintro e w2 ⟨rfl, b2⟩
          have HRj : Hid (TxR w1.heap.size w2 (.slice A0 (p.decls.length + k9) c0) xs) := HR.out.calm (Calm.of_below 0 b2)
          have HBw := Lib.hid (HBr2.out.trans (b2.mono HBr2.out.size))
          have HXn : Hid (xs ++ [bts (txRu ru)] = (LL.take (p.decls.length + (k9 + 1))).map bts) := by
            show _ = _
            obtain ⟨h1, h2⟩ := List.getElem?_eq_some_iff.1 HLj.out
            rw [show p.decls.length + (k9 + 1) = p.decls.length + k9 + 1 by omega, List.take_succ_eq_append_getElem h1, List.map_append, ← HX.out, h2]
            rfl
          clear b2 HC d0 d1 d2 d3 d4 d5 p1
          generalize bts (txRu ru) = TT at *
          have HO : Hid ((w2.alloc (.cells #[.string TT] 9)).ownsRow w1.heap.size 9 1 (.slice A0 (p.decls.length + k9) c0) (p.decls.length + k9) (xs.map .string)) := by
            have h := HRj.out.calm (Calm.alloc 0 w2 (.cells #[.string TT] 9))
            unfold TxR at h
            rw [HXl.out] at h
            exact h
          have hnews : ∀ j u, [Value.string TT][j]? = some u → (w2.alloc (.cells #[.string TT] 9)).cell? ((⟨w2.heap.size, 0, none⟩ : Addr).add j) = some u := fun j u hj => by
            have hv : Own (w2.alloc (.cells #[.string TT] 9)) w2.heap.size 9 [.string TT] := heap_alloc_new _ _
            rw [Addr.add_lit, Nat.zero_add, hv.cell]
            exact hj
          have HNw := Lib.hid hnews
          have hws0 : w1.heap.size ≤ w2.heap.size := HBw.out.size
          have hws : w1.heap.size ≤ (w2.alloc (.cells #[.string TT] 9)).heap.size := by simp; omega
          have hb1 : p.decls.length + k9 + 1 ≤ maxLen := by unfold maxLen; omega
          have hb2 : (p.decls.length + k9 + 1) * 16 ≤ 140737488355328 := by omega
          have hone : ∀ u ∈ [Value.string TT], u.oneCell' = true := by simp [Value.oneCell']
          clear hnews
          go_wp2_with (at_builtin; refine wpList_append_own_at _ rfl _ _ 33 rfl w1.heap.size 9 i0 _ 1 16 Tryz.underlying33 hi0 hz0 hzs hzb rfl (by decide) (.slice A0 (p.decls.length + k9) c0) (p.decls.length + k9) (xs.map .string) rfl HO.out ⟨w2.heap.size, 0, none⟩ 1 1 [.string TT] rfl rfl HNw.out hone hb1 hb2 hws ?_; intro v' w3 ho hg _ hat; obtain ⟨g1, cap1, rfl⟩ := owns_valS ho; have HQ := Lib.hid (TxR.push HRj.out hws0 (by rw [HXl.out]; exact ho) hg); clear ho hg hat)
          go_roundw
          case rel => exact ⟨k9 + 1, some ⟨g1, 0, none⟩, cap1, xs ++ [TT], by omega, by rw [Nat.add_assoc], by go_num, HXn, Lib.hid (by have := HXl.out; simp; omega), Lib.hid (by rw [show p.decls.length + (k9 + 1) = p.decls.length + k9 + 1 by omega]; have h := HQ.out.1; exact h), Lib.hid (HBw.out.trans HQ.out.2)⟩
          case measure => simp [intOf]; omega
        · have hke : k9 = p.rules.length := by omega
          subst hke
          have HF : Hid (TxR w.heap.size wr (.slice A0 (p.decls.length + p.rules.length) c0) xs) := ⟨HR.out.1, HR.out.2.imp id (fun ⟨g, cap, cur, h1, hg, hh⟩ => ⟨g, cap, cur, h1, by omega, hh⟩)⟩
          have HXf : Hid (xs = LL.map bts) := by
            have h := HX.out
            rw [← HLl.out, List.take_length] at h
            exact h
          have HBf := Lib.hid (HB.out.trans (HBr2.out.mono HB.out.size))
          go_wp2_with fail
          go_ret
          refine ⟨A0, c0, by rw [HLl.out]; rfl, ?_, HBf.out⟩
          rw [HLl.out, ← HXf.out]
          exact HF.out
end Go.Proofs.YtikohamfnnlhcaaGreatDoor
