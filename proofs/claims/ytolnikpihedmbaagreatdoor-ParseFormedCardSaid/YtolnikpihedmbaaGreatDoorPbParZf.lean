/- The example is so; ParseFormed. Conditions: what is laid; texts of at most 2^47 bytes. -/
import Derived.Test.YtolnikpihedmbaaGreatDoorPbZ
set_option linter.unusedVariables false
set_option linter.unusedSimpArgs false
namespace Go.Proofs.YtolnikpihedmbaaGreatDoor
open Go.RowKit Go.Deep Go.Shelf

set_option maxRecDepth 100000 in
set_option maxHeartbeats 4000000 in
theorem formed6_walk (s : ByteArray) (w : World) (hs : s.size ≤ maxLen) (h : Rdy w) :
    Calls Tryz.prog 3 #[.string s] w fun r w' => r = .returned (.bool true) ∧ Below w.heap.size w w' := by
  have HAl := Lib.hid (alive6 w h)
  have HPa := Lib.hid (fun W (hb : Below w.heap.size w W) => Parse_any s W hs (h.below hb))
  have HLy := Lib.hid (fun W (hb : Below w.heap.size w W) => (h.below hb).1)
  have k1 : ∀ w, (binOp .neq 28 .nilIface .nilIface).run Tryz.prog w = .ok (.bool false) w := fun w => by kernel_rfl
  have k2 : ∀ n w, (binOp .neq 28 (eno n) .nilIface).run Tryz.prog w = .ok (.bool true) w := fun n w => by kernel_rfl
  unfold maxLen at hs
  obtain ⟨hK1, hK2⟩ := resP_ok s
  generalize resP s = q at *
  obtain ⟨p, at_, en⟩ := q
  simp only at hK1 hK2
  have HK1 := Lib.hid hK1
  have HK2 := Lib.hid hK2
  clear h hK1 hK2
  go_enter Tryz.func3, Tryz.ntmps3
  go_wp2_with fail
  refine HAl.out.mono ?_
  rintro r w1 ⟨rfl, b1⟩
  have B1 := Lib.hid b1
  clear b1 HAl
  by_cases hl : (4100 : Int) < (s.size : Int)
  · go_wp2
    go_ret
    exact ⟨rfl, B1.out⟩
  · go_wp2_with fail
    refine (HPa.out w1 B1.out).mono ?_
    rintro r w2 ⟨A, c, B, d, rfl, hv, b2⟩
    simp only at hv
    have B2 := Lib.hid (B1.out.trans (b2.mono B1.out.size))
    have HV := Lib.hid hv.here
    clear b2 hv HPa
    by_cases he : en ≠ 0
    · obtain ⟨hp, ha0, ha1⟩ := HK1.out he
      have hee : errV en = eno en := err_eno he
      rw [hee]
      subst hp
      have k3 := k2 en
      simp only [List.length_nil]
      clear he hee HK1 HK2 HV k1 k2
      go_wp2
      go_ret
      exact ⟨rfl, B2.out.alloc B2.out.size _⟩
    · have h0 : en = 0 := by
        by_cases h9 : en = 0
        · exact h9
        · exact absurd h9 he
      subst h0
      obtain ⟨ha, hf, hasc, hin⟩ := HK2.out rfl
      have he0 : errV 0 = .nilIface := err0
      rw [he0]
      subst ha
      have hdl : p.decls.length ≤ 1000 ∧ p.rules.length ≤ 1000 := by
        unfold formedB at hf
        simp only [Bool.and_eq_true, decide_eq_true_eq] at hf
        omega
      have HF := Lib.hid hf
      have HA := Lib.hid hasc
      have HI := Lib.hid hin
      have hdl2 := hdl.2
      have HO3 : Hid (Own (w2.alloc (.cells #[.slice A p.decls.length c, .slice B p.rules.length d] 26)) w2.heap.size 26 [.slice A p.decls.length c, .slice B p.rules.length d]) := heap_alloc_new _ _
      have HB3 : Hid (Below w2.heap.size w2 (w2.alloc (.cells #[.slice A p.decls.length c, .slice B p.rules.length d] 26))) := (Below.refl _ _).alloc (Nat.le_refl _) _
      obtain ⟨b3, hb3⟩ : ∃ b, b = w2.heap.size := ⟨_, rfl⟩
      have HB3e := Lib.hid hb3
      rw [← hb3] at HO3
      clear he HK1 HK2 hf hasc hin he0 hdl hb3 k2
      go_wp2_with fail
      rw [show (Value.pointer (some ⟨w2.heap.size, 0, none⟩)) = .pointer (some ⟨b3, 0, none⟩) by rw [HB3e.out]]
      obtain ⟨w3, hw3⟩ : ∃ w3, w3 = (w2.alloc (.cells #[.slice A p.decls.length c, .slice B p.rules.length d] 26)) := ⟨_, rfl⟩
      have HW3 := Lib.hid hw3
      rw [← hw3] at HO3 HB3
      clear hw3
      rw [← HW3.out]
      go_loopw [6, 43] (fun lv i wr => ∃ (k : Nat) (last : Int), k ≤ p.rules.length ∧ i = .int .i64 (k : Int) ∧ lv = .int .i64 last ∧ Hid (∀ (hk : k < p.rules.length), last < p.rules[k].pos) ∧ Hid (Below w3.heap.size w3 wr)) (fun _ i _ => p.rules.length - (intOf i).toNat)
      case atStart => exact ⟨0, -1, Nat.zero_le _, rfl, rfl, Lib.hid (fun hk => by have := (HI.out _ (List.getElem_mem hk)).1; omega), Below.refl _ _⟩
      case round =>
        obtain ⟨k, last, hk, rfl, rfl, HLa, HBr⟩ := hrel
        by_cases hlt : k < p.rules.length
        · have hla := HLa.out hlt
          have hin2 := (HI.out _ (List.getElem_mem hlt)).2
          have HNx : Hid (∀ (hk2 : k + 1 < p.rules.length), p.rules[k].pos < p.rules[k + 1].pos) := fun hk2 => List.pairwise_iff_getElem.1 HA.out k (k + 1) hlt hk2 (Nat.lt_succ_self _)
          obtain ⟨b, o, rfl, hbw, hc⟩ := HV.out.rules.at_ hlt
          obtain ⟨A1, c1, B1', d1, c0, cc1, c2, c3, c4, c5, hrv⟩ := (hc.pers (Pers.of (HB3.out.trans (HBr.out.mono HB3.out.size)))).open_
          have hbq : b < wr.heap.size := by have := HB3.out.size; have := HBr.out.size; omega
          generalize p.rules[k] = y at *
          have hyn : ¬ (y.pos ≤ last) := by omega
          have hyn2 : ¬ ((s.size : Int) ≤ y.pos) := by omega
          clear hc hrv HLa
          go_wp2_with (first
            | (refine wpList_load_at (o := ⟨some 46, _, _, _, _, _⟩) rfl 36 _ rfl b (o + k * 6) rfl [.string y.head.rel, .slice A1 y.head.args.length c1, .int .i64 y.agg, .int .i64 y.col, .slice B1' y.body.length d1, .int .i64 y.pos] (by intro j v hv; rcases j with _ | _ | _ | _ | _ | _ | j <;> simp at hv <;> subst hv <;> assumption) _ Tryz.underlying36 rfl infoTru6 ?_)
            | (refine wpList_store_new (o := ⟨none, .store 36 _ _, _, _, _, _⟩) rfl 36 _ _ rfl #[.string y.head.rel, .slice A1 y.head.args.length c1, .int .i64 y.agg, .int .i64 y.col, .slice B1' y.body.length d1, .int .i64 y.pos] rfl rfl 36 _ infoTru6 rfl (by simp [Value.oneCell']) ?_)
            | fail)
          go_roundw
          case rel => exact ⟨k + 1, y.pos, by omega, by go_num, rfl, HNx, Lib.hid (HBr.out.alloc HBr.out.size _)⟩
          case measure => simp [intOf]; omega
        · have HFm := Lib.hid (Formed_any p A c B d wr (HV.out.pers (Pers.of (HB3.out.trans (HBr.out.mono HB3.out.size)))) (HLy.out wr (B2.out.trans ((HB3.out.trans (HBr.out.mono HB3.out.size)).mono B2.out.size))))
          have HOr := Lib.hid (HO3.out.below HBr.out)
          have e0 := HOr.out.cell 0
          have e1 := HOr.out.cell 1
          have eq := HOr.out.lt
          simp only [List.getElem?_cons_zero, List.getElem?_cons_succ] at e0 e1
          have HFt := HF.out
          rw [HFt] at HFm
          have HBz := Lib.hid (B2.out.trans ((HB3.out.trans (HBr.out.mono HB3.out.size)).mono B2.out.size))
          clear HLa HFt
          go_wp2_with fail
          refine HFm.out.mono ?_
          rintro r w9 ⟨rfl, b9⟩
          have HBy := Lib.hid (HBz.out.trans (b9.mono HBz.out.size))
          clear b9 e0 e1 eq
          go_wp2
          go_ret
          exact ⟨rfl, HBy.out⟩
end Go.Proofs.YtolnikpihedmbaaGreatDoor
