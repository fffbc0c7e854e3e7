/- The document's list of tokens: its walk. Conditions: texts of at most 10000 bytes. -/
import Derived.Test.YtgjcaadgkeebpaaDoorLexP
namespace Go.Proofs.YtgjcaadgkeebpaaDoor
open Go.RowKit Go.Deep Go.Shelf

theorem ref_part (s : ByteArray) (e a : Nat) : (s.extract e a).data.toList = (s.data.toList.drop e).take (a - e) := by
  simp
theorem line_get : ∀ (l : List UInt8) (j : Nat) (hj : j < l.length), (j < lineN l → lfB l[j] = false) ∧ (j = lineN l → lfB l[j] = true)
  | c :: r, j, hj => by
    by_cases h : lfB c = true
    · have e : lineN (c :: r) = 0 := by simp [lineN, h]
      rw [e]
      refine ⟨fun h0 => absurd h0 (by omega), ?_⟩
      rintro rfl
      exact h
    · have e : lineN (c :: r) = lineN r + 1 := by simp [lineN, h]
      rw [e]
      match j with
      | 0 => exact ⟨fun _ => by simpa using h, fun h0 => by omega⟩
      | j + 1 =>
        have ih := line_get r j (by simpa using hj)
        exact ⟨fun h0 => ih.1 (by omega), fun h0 => ih.2 (by omega)⟩
theorem line_no {s : ByteArray} {o j : Nat} (hj : j < lineN (s.data.toList.drop o)) (h : o + j < s.size) : ((s[o + j].toNat : Int) != 10) = true := by
  have hl : j < (s.data.toList.drop o).length := by simp; omega
  have h1 := (line_get _ j hl).1 hj
  rw [List.getElem_drop] at h1
  have h2 : lfB s[o + j] = false := h1
  simpa [lfB, bne] using h2
theorem line_yes {s : ByteArray} {o : Nat} (h : o + lineN (s.data.toList.drop o) < s.size) : ((s[o + lineN (s.data.toList.drop o)].toNat : Int) != 10) = false := by
  have hl : lineN (s.data.toList.drop o) < (s.data.toList.drop o).length := by simp; omega
  have h1 := (line_get _ _ hl).2 rfl
  rw [List.getElem_drop] at h1
  have h2 : lfB s[o + lineN (s.data.toList.drop o)] = true := h1
  simpa [lfB, bne] using h2

set_option maxRecDepth 100000 in
set_option maxHeartbeats 4000000 in
theorem refList_any (s : ByteArray) (w : World) (hs : s.size ≤ 10000) :
    Calls Tryd.prog 12 #[.string s] w fun e w' => RlPost w (lexA kindW 0 s.data.toList) e w' := by
  obtain ⟨i0, hi0, hz0, hzs, hzb⟩ := info_parts infoRt
  have h00 : RfA w s (lexA kindW 0 s.data.toList) 0 [] [] (.slice none 0 0) w := ⟨.inl ⟨rfl, rfl, rfl⟩, (fun _ h => by cases h), Below.refl _ _, rfl, rfl, Nat.le_refl _⟩
  have H00 := Lib.hid h00
  generalize lexA kindW 0 s.data.toList = R at H00 ⊢
  clear h00
  go_enter Tryd.func12, Tryd.ntmps12
  go_wp2_with fail
  go_loopw [4, 5] (fun v i wr => ∃ (o : Nat) (V : Value), o ≤ s.size ∧ i = .int .i64 o ∧ V = v ∧ Hid (RfI w s R o V wr)) (fun _ i _ => s.size - (intOf i).toNat)
  case atStart => exact ⟨0, _, Nat.zero_le _, rfl, rfl, ⟨_, _, H00.out⟩⟩
  case round =>
    obtain ⟨o, V, ho, rfl, rfl, HI⟩ := hrel
    obtain ⟨pre, G, hA⟩ := HI.out
    have HA := Lib.hid hA
    clear hA HI
    by_cases hlt : o < s.size
    · have hd := drop_at s hlt
      have hdn : s.data.toList.drop o ≠ [] := by rw [hd]; simp
      rcases bl_cases s[o] with ⟨a1, b⟩ | ⟨a1, a2, b⟩ | ⟨a1, a2, a3, b⟩ | ⟨a1, a2, a3, a4, b⟩ | ⟨a1, a2, a3, a4, a5, b, b'⟩ | ⟨a1, a2, a3, a4, a5, b, b'⟩
      · skip
        have HQ : Hid (RfI w s R (o + 1) V wr) := ⟨_, _, HA.out.skip 1 (by rw [hd, skip_bl b]; simp only [List.drop_succ_cons, List.drop_zero]; omega)⟩
        clear hd b HA
        go_wp2
        go_roundw
        case rel => exact ⟨o + 1, V, by omega, by go_num, rfl, HQ⟩
        case measure => simp [intOf]; omega
      · skip
        have HQ : Hid (RfI w s R (o + 1) V wr) := ⟨_, _, HA.out.skip 1 (by rw [hd, skip_bl b]; simp only [List.drop_succ_cons, List.drop_zero]; omega)⟩
        clear hd b HA
        go_wp2
        go_roundw
        case rel => exact ⟨o + 1, V, by omega, by go_num, rfl, HQ⟩
        case measure => simp [intOf]; omega
      · skip
        have HQ : Hid (RfI w s R (o + 1) V wr) := ⟨_, _, HA.out.skip 1 (by rw [hd, skip_bl b]; simp only [List.drop_succ_cons, List.drop_zero]; omega)⟩
        clear hd b HA
        go_wp2
        go_roundw
        case rel => exact ⟨o + 1, V, by omega, by go_num, rfl, HQ⟩
        case measure => simp [intOf]; omega
      · skip
        have HQ : Hid (RfI w s R (o + 1) V wr) := ⟨_, _, HA.out.skip 1 (by rw [hd, skip_bl b]; simp only [List.drop_succ_cons, List.drop_zero]; omega)⟩
        clear hd b HA
        go_wp2
        go_roundw
        case rel => exact ⟨o + 1, V, by omega, by go_num, rfl, HQ⟩
        case measure => simp [intOf]; omega
      · have HL : Hid (RfI w s R (o + lineN (s.data.toList.drop o)) V wr) := ⟨_, _, HA.out.skip _ (by rw [hd]; exact skip_per b b')⟩
        have hll := line_le (s.data.toList.drop o)
        simp only [List.length_drop, show s.data.toList.length = s.size by simp] at hll
        have HLn : Hid (∀ j, j < lineN (s.data.toList.drop o) → (h : o + j < s.size) → ((s[o + j].toNat : Int) != 10) = true) := fun j hj h => line_no hj h
        have HLe : Hid ((h : o + lineN (s.data.toList.drop o) < s.size) → ((s[o + lineN (s.data.toList.drop o)].toNat : Int) != 10) = false) := fun h => line_yes h
        have hl0 : 0 < lineN (s.data.toList.drop o) := by
          have hlf : lfB s[o] = false := by
            cases hl : lfB s[o] with
            | false => rfl
            | true => rw [lf_bl hl] at b; cases b
          rw [hd]
          simp [lineN, hlf]
        generalize lineN (s.data.toList.drop o) = n at HL hll HLn HLe hl0
        clear hd hdn b b' HA
        go_wp2_with fail
        go_loop [5] (fun i => ∃ j : Nat, j ≤ n ∧ i = .int .i64 ((o + j : Nat) : Int)) (fun i => s.size - (intOf i).toNat)
        case atStart => exact ⟨0, Nat.zero_le _, rfl⟩
        case round =>
          obtain ⟨j, hj, rfl⟩ := hrel
          by_cases hjs : o + j < s.size
          · by_cases hjn : j < n
            · have h1 := HLn.out j hjn hjs
              go_wp2
              go_round
              case rel => exact ⟨j + 1, by omega, by go_num⟩
              case measure => simp [intOf]; omega
            · obtain rfl : j = n := by omega
              have h1 := HLe.out hjs
              go_wp2
              go_roundw
              case rel => exact ⟨o + j, V, by omega, rfl, rfl, HL⟩
              case measure => simp [intOf]; omega
          · obtain rfl : j = n := by omega
            go_wp2
            go_roundw
            case rel => exact ⟨o + j, V, by omega, rfl, rfl, HL⟩
            case measure => simp [intOf]; omega
      · have hs0 : skipN false (s.data.toList.drop o) = 0 := by rw [hd]; exact skip_no b b'
        have HS0 := Lib.hid hs0
        have HDn := Lib.hid hdn
        obtain ⟨A0, c0, rfl, _⟩ := HA.out.1.val
        have hpl : pre.length ≤ 10000 := by have := HA.out.2.2.2.2.2; omega
        have hb1 : pre.length + 1 ≤ maxLen := by unfold maxLen; omega
        have hb2 : (pre.length + 1) * 32 ≤ 140737488355328 := by omega
        clear hs0 b b'
        by_cases hw : wb s[o] = true ∧ ((s[o].toNat : Int) != 95) = true
        · -- a word
          obtain ⟨hw1, hw2⟩ := hw
          have HI1 := Lib.hid (fun W => inside_is s[o] true hw1 W)
          have hwn : (s.data.toList.drop o).takeWhile wb ≠ [] := by rw [hd, List.takeWhile_cons, if_pos hw1]; simp
          have hn0 : 0 < wordN (s.data.toList.drop o) := List.length_pos_iff.2 hwn
          have hle := wordN_le (s.data.toList.drop o)
          simp only [List.length_drop, show s.data.toList.length = s.size by simp] at hle
          have HT : Hid (∀ j, j < wordN (s.data.toList.drop o) → (h : o + j < s.size) → wb s[o + j] = true) := fun j hj h => by
            have hl : j < (s.data.toList.drop o).length := by simp; omega
            have h1 := wordN_lt hj hl
            rw [List.getElem_drop] at h1
            exact h1
          have HF : Hid ((h : o + wordN (s.data.toList.drop o) < s.size) → wb s[o + wordN (s.data.toList.drop o)] = false) := fun h => by
            have hl : wordN (s.data.toList.drop o) < (s.data.toList.drop o).length := by simp; omega
            have h1 := wordN_at hl
            rw [List.getElem_drop] at h1
            exact h1
          have hE : s.extract o (o + wordN (s.data.toList.drop o)) = bts ((s.data.toList.drop o).takeWhile wb) := by
            rw [← bts_of (s.extract o _), ref_part, Nat.add_sub_cancel_left, wordN_take]
          have htw := tok_word hwn
          have hwlen : ((s.data.toList.drop o).takeWhile wb).length = wordN (s.data.toList.drop o) := rfl
          have HWd := Lib.hid (fun W => word_any (bts ((s.data.toList.drop o).takeWhile wb)) W (by rw [bts_size, hwlen]; unfold maxLen; omega) (by rw [bts_size, hwlen]; omega))
          simp only at HWd
          generalize hq : kindW ((s.data.toList.drop o).takeWhile wb) = q at htw HWd
          have HLen := Lib.hid hwlen
          have HTw := Lib.hid htw
          generalize wordN (s.data.toList.drop o) = n at hn0 hle HT HF hE HLen
          obtain ⟨T, hT⟩ : ∃ T, bts ((s.data.toList.drop o).takeWhile wb) = T := ⟨_, rfl⟩
          rw [hT] at hE HWd
          have HTt := Lib.hid hT
          have HE := Lib.hid hE
          clear hd hdn hwn hwlen htw hq hT hE hw1
          go_wp2_with fail
          refine (HI1.out _).mono ?_
          rintro e w' ⟨rfl, rfl⟩
          go_wp2_with fail
          go_loop [7] (fun i => ∃ j : Nat, j ≤ n ∧ i = .int .i64 ((o + j : Nat) : Int)) (fun i => s.size - (intOf i).toNat)
          case atStart => exact ⟨0, Nat.zero_le _, rfl⟩
          case round =>
            obtain ⟨j, hj, rfl⟩ := hrel
            by_cases hjn : j < n
            · have hjs : o + j < s.size := by omega
              have H1 := Lib.hid (HT.out j hjn hjs)
              go_wp2_with fail
              refine (inside_is _ _ H1.out _).mono ?_
              rintro e w' ⟨rfl, rfl⟩
              go_wp2
              go_round
              case rel => exact ⟨j + 1, by omega, by go_num⟩
              case measure => simp [intOf]; omega
            · obtain rfl : j = n := by omega
              have hb3 : o ≤ o + j := by omega
              have hE := HE.out
              by_cases hjs : o + j < s.size
              · have H1 := Lib.hid (HF.out hjs)
                go_wp2_with fail
                refine (inside_is _ _ H1.out _).mono ?_
                rintro e w' ⟨rfl, rfl⟩
                go_wp2_with fail
                refine (HWd.out _).mono ?_
                rintro e w2 ⟨rfl, b2⟩
                have HAX := Lib.hid (HA.out.below b2)
                clear b2 HA HWd HT HF
                by_cases hq : q = 0
                · subst hq
                  have HQ := Lib.hid (HAX.out.bad HS0.out HDn.out (by rw [HTw.out]; simp))
                  clear hE
                  go_wp2
                  go_ret2
                  exact HQ.out
                · have hqz : ((q : Int) == 0) = false := by simp only [beq_eq_false_iff_ne]; omega
                  have HTk : Hid (tokOf kindW (s.data.toList.drop o) = some (q, (s.data.toList.drop o).takeWhile wb)) := by show _ = _; rw [HTw.out, if_neg hq]
                  have HOw := Lib.hid ((HAX.out.1.kept ((Kept.refl [] w2).alloc (.cells #[.int .i64 (q : Int), .string T, .int .i64 (o : Int)] 37)) (fun _ _ h => by cases h)).owns)
                  have HNw : Hid (∀ k u, (tkC (q, (s.data.toList.drop o).takeWhile wb, o))[k]? = some u → (w2.alloc (.cells #[.int .i64 (q : Int), .string T, .int .i64 (o : Int)] 37)).cell? ((⟨w2.heap.size, 0, none⟩ : Addr).add k) = some u) := fun k u hk => by
                    have hv : Own (w2.alloc (.cells #[.int .i64 (q : Int), .string T, .int .i64 (o : Int)] 37)) w2.heap.size 37 (tkC (q, (s.data.toList.drop o).takeWhile wb, o)) := by
                      rw [show tkC (q, (s.data.toList.drop o).takeWhile wb, o) = [.int .i64 (q : Int), .string T, .int .i64 (o : Int)] by show [_, Value.string (bts _), _] = _; rw [HTt.out]]
                      exact heap_alloc_new w2 _
                    rw [Addr.add_lit, Nat.zero_add, hv.cell]
                    exact hk
                  have hone : ∀ u ∈ tkC (q, (s.data.toList.drop o).takeWhile wb, o), u.oneCell' = true := by simp [Value.oneCell']
                  have HLn := Lib.hid HLen.out
                  clear hq
                  go_wp2_with (at_builtin; refine wpList_append_own_at _ rfl _ _ 28 rfl 0 37 i0 _ 3 32 Tryd.underlying28 hi0 hz0 hzs hzb rfl (by decide) (.slice A0 pre.length c0) pre.length (flatT pre) rfl HOw.out ⟨w2.heap.size, 0, none⟩ 1 1 (tkC (q, (s.data.toList.drop o).takeWhile wb, o)) rfl rfl HNw.out hone hb1 hb2 (Nat.zero_le _) ?_; intro v' w3 ho hg _ hat; obtain ⟨g1, cap1, rfl⟩ := owns_val3 ho; have hQ := HAX.out.push HS0.out HDn.out HTk.out ho hg hat; rw [HLen.out] at hQ; have HQ := Lib.hid hQ; clear ho hg hat hQ)
                  go_roundw
                  case rel => exact ⟨o + j, _, by omega, rfl, rfl, HQ⟩
                  case measure => simp [intOf]; omega
              · go_wp2_with fail
                refine (HWd.out _).mono ?_
                rintro e w2 ⟨rfl, b2⟩
                have HAX := Lib.hid (HA.out.below b2)
                clear b2 HA HWd HT HF
                by_cases hq : q = 0
                · subst hq
                  have HQ := Lib.hid (HAX.out.bad HS0.out HDn.out (by rw [HTw.out]; simp))
                  clear hE
                  go_wp2
                  go_ret2
                  exact HQ.out
                · have hqz : ((q : Int) == 0) = false := by simp only [beq_eq_false_iff_ne]; omega
                  have HTk : Hid (tokOf kindW (s.data.toList.drop o) = some (q, (s.data.toList.drop o).takeWhile wb)) := by show _ = _; rw [HTw.out, if_neg hq]
                  have HOw := Lib.hid ((HAX.out.1.kept ((Kept.refl [] w2).alloc (.cells #[.int .i64 (q : Int), .string T, .int .i64 (o : Int)] 37)) (fun _ _ h => by cases h)).owns)
                  have HNw : Hid (∀ k u, (tkC (q, (s.data.toList.drop o).takeWhile wb, o))[k]? = some u → (w2.alloc (.cells #[.int .i64 (q : Int), .string T, .int .i64 (o : Int)] 37)).cell? ((⟨w2.heap.size, 0, none⟩ : Addr).add k) = some u) := fun k u hk => by
                    have hv : Own (w2.alloc (.cells #[.int .i64 (q : Int), .string T, .int .i64 (o : Int)] 37)) w2.heap.size 37 (tkC (q, (s.data.toList.drop o).takeWhile wb, o)) := by
                      rw [show tkC (q, (s.data.toList.drop o).takeWhile wb, o) = [.int .i64 (q : Int), .string T, .int .i64 (o : Int)] by show [_, Value.string (bts _), _] = _; rw [HTt.out]]
                      exact heap_alloc_new w2 _
                    rw [Addr.add_lit, Nat.zero_add, hv.cell]
                    exact hk
                  have hone : ∀ u ∈ tkC (q, (s.data.toList.drop o).takeWhile wb, o), u.oneCell' = true := by simp [Value.oneCell']
                  have HLn := Lib.hid HLen.out
                  clear hq
                  go_wp2_with (at_builtin; refine wpList_append_own_at _ rfl _ _ 28 rfl 0 37 i0 _ 3 32 Tryd.underlying28 hi0 hz0 hzs hzb rfl (by decide) (.slice A0 pre.length c0) pre.length (flatT pre) rfl HOw.out ⟨w2.heap.size, 0, none⟩ 1 1 (tkC (q, (s.data.toList.drop o).takeWhile wb, o)) rfl rfl HNw.out hone hb1 hb2 (Nat.zero_le _) ?_; intro v' w3 ho hg _ hat; obtain ⟨g1, cap1, rfl⟩ := owns_val3 ho; have hQ := HAX.out.push HS0.out HDn.out HTk.out ho hg hat; rw [HLen.out] at hQ; have HQ := Lib.hid hQ; clear ho hg hat hQ)
                  go_roundw
                  case rel => exact ⟨o + j, _, by omega, rfl, rfl, HQ⟩
                  case measure => simp [intOf]; omega
        · -- a sign, or no token
          have hc : wb s[o] = false ∨ s[o] = 95 := by
            cases hwb : wb s[o] with
            | false => exact .inl rfl
            | true =>
              refine .inr ?_
              have h2 : ¬ ((s[o].toNat : Int) != 95) = true := fun h => hw ⟨hwb, h⟩
              have h3 : (s[o].toNat : Int) = 95 := by simpa [bne] using h2
              apply UInt8.toNat_inj.1
              simpa using (by omega : s[o].toNat = 95)
          have htk : tokOf kindW (s.data.toList.drop o) = (signOf (s.data.toList.drop o)).map fun p => (5, p) := by rw [hd]; exact tok_sign hc
          rw [signOf_eq] at htk
          have hin : (wb s[o] && ((s[o].toNat : Int) != 95)) = false := by
            cases hwb : wb s[o] with
            | false => rfl
            | true =>
              cases h2 : ((s[o].toNat : Int) != 95) with
              | false => rfl
              | true => exact absurd ⟨hwb, h2⟩ hw
          have HI1 : Hid (∀ W, Calls Tryd.prog 16 #[.int .u8 s[o].toNat] W fun e w' => e = .returned (.bool (wb s[o])) ∧ W = w') := fun W => inside_any s[o] W
          have HTk0 := Lib.hid htk
          clear hd hdn htk hw hc
          cases hwb : wb s[o] with
          | false =>
            rw [hwb] at HI1 hin
            have h95 : True := trivial
            clear hin hwb
            have hl1 : (s.data.toList.drop o).length = s.size - o := by simp
            by_cases h2 : o + 2 ≤ s.size
            · have h2i : (o : Int) + 2 ≤ (s.size : Int) := by omega
              have hE2 : s.extract o (o + 2) = bts ((s.data.toList.drop o).take 2) := by rw [← bts_of (s.extract o _), ref_part, Nat.add_sub_cancel_left]
              have hO4 : Own (wr.alloc (.cells #[.string (bts [58,45]), .string (bts [33,61]), .string (bts [60,61]), .string (bts [62,61])] 9)) wr.heap.size 9 (twoL.map fun l => .string (bts l)) := heap_alloc_new wr _
              have hB4 : Below wr.heap.size wr (wr.alloc (.cells #[.string (bts [58,45]), .string (bts [33,61]), .string (bts [60,61]), .string (bts [62,61])] 9)) := (Below.refl _ _).alloc (Nat.le_refl _) _
              obtain ⟨w4, hw4⟩ : ∃ w4, w4 = wr.alloc (.cells #[.string (bts [58,45]), .string (bts [33,61]), .string (bts [60,61]), .string (bts [62,61])] 9) := ⟨_, rfl⟩
              rw [← hw4] at hO4 hB4
              have HI2 := Lib.hid (in_any wr.heap.size 0 4 twoL (bts ((s.data.toList.drop o).take 2)) w4 (by decide) (fun i x hx => by rw [Nat.zero_add, hO4.cell, List.getElem?_map, hx]; rfl))
              simp only at HI2
              have HA4 := Lib.hid (HA.out.below hB4)
              have HW4 := Lib.hid hw4
              obtain ⟨T2, hT2⟩ : ∃ T, bts ((s.data.toList.drop o).take 2) = T := ⟨_, rfl⟩
              rw [hT2] at HI2 hE2
              have HTt2 := Lib.hid hT2
              clear hw4 hO4 hB4 hT2 HA
              cases hi2 : inB twoL ((s.data.toList.drop o).take 2) with
              | true =>
                rw [hi2] at HI2
                have HTk : Hid (tokOf kindW (s.data.toList.drop o) = some (5, (s.data.toList.drop o).take 2)) := by show _ = _; rw [HTk0.out, if_pos hi2]; rfl
                have HLn : Hid (((s.data.toList.drop o).take 2).length = 2) := by show _ = _; rw [List.length_take, hl1]; omega
                clear hi2 hl1
                go_wp2_with fail
                refine (HI1.out _).mono ?_
                rintro e w' ⟨rfl, rfl⟩
                go_wp2_with fail
                rw [← HW4.out]
                refine HI2.out.mono ?_
                rintro e w' ⟨rfl, rfl⟩
                have HOw := Lib.hid ((HA4.out.1.kept ((Kept.refl [] w4).alloc (.cells #[.int .i64 5, .string T2, .int .i64 (o : Int)] 37)) (fun _ _ h => by cases h)).owns)
                have HNw : Hid (∀ k u, (tkC (5, ((s.data.toList.drop o).take 2), o))[k]? = some u → (w4.alloc (.cells #[.int .i64 5, .string T2, .int .i64 (o : Int)] 37)).cell? ((⟨w4.heap.size, 0, none⟩ : Addr).add k) = some u) := fun k u hk => by
                  have hv : Own (w4.alloc (.cells #[.int .i64 5, .string T2, .int .i64 (o : Int)] 37)) w4.heap.size 37 (tkC (5, ((s.data.toList.drop o).take 2), o)) := by
                    rw [show tkC (5, ((s.data.toList.drop o).take 2), o) = [.int .i64 5, .string T2, .int .i64 (o : Int)] by show [_, Value.string (bts _), _] = _; rw [HTt2.out]; rfl]
                    exact heap_alloc_new w4 _
                  rw [Addr.add_lit, Nat.zero_add, hv.cell]
                  exact hk
                have hone : ∀ u ∈ tkC (5, ((s.data.toList.drop o).take 2), o), u.oneCell' = true := by simp [Value.oneCell']
                go_wp2_with (at_builtin; refine wpList_append_own_at _ rfl _ _ 28 rfl 0 37 i0 _ 3 32 Tryd.underlying28 hi0 hz0 hzs hzb rfl (by decide) (.slice A0 pre.length c0) pre.length (flatT pre) rfl HOw.out ⟨w4.heap.size, 0, none⟩ 1 1 (tkC (5, ((s.data.toList.drop o).take 2), o)) rfl rfl HNw.out hone hb1 hb2 (Nat.zero_le _) ?_; intro v' w3 ho hg _ hat; obtain ⟨g1, cap1, rfl⟩ := owns_val3 ho; have hQ := HA4.out.push HS0.out HDn.out HTk.out ho hg hat; rw [HLn.out] at hQ; have HQ := Lib.hid hQ; clear ho hg hat hQ)
                go_roundw
                case rel => exact ⟨o + 2, _, by omega, by go_num, rfl, HQ⟩
                case measure => simp [intOf]; omega
              | false =>
                rw [hi2] at HI2
                have HTk1 : Hid (tokOf kindW (s.data.toList.drop o) = (if inB oneL ((s.data.toList.drop o).take 1) = true then some ((s.data.toList.drop o).take 1) else none).map fun p => (5, p)) := by show _ = _; rw [HTk0.out, if_neg (by simp [hi2])]
                clear hi2 hl1
                go_wp2_with fail
                refine (HI1.out _).mono ?_
                rintro e w' ⟨rfl, rfl⟩
                go_wp2_with fail
                rw [← HW4.out]
                refine HI2.out.mono ?_
                rintro e w' ⟨rfl, rfl⟩
                clear hE2 HW4 HI2
                have hE1 : s.extract o (o + 1) = bts ((s.data.toList.drop o).take 1) := by rw [← bts_of (s.extract o _), ref_part, Nat.add_sub_cancel_left]
                have hO10 : Own (w4.alloc (.cells #[.string (bts [40]), .string (bts [41]), .string (bts [44]), .string (bts [46]), .string (bts [61]), .string (bts [60]), .string (bts [62]), .string (bts [43]), .string (bts [45]), .string (bts [42])] 9)) w4.heap.size 9 (oneL.map fun l => .string (bts l)) := heap_alloc_new w4 _
                have hB10 : Below w4.heap.size w4 (w4.alloc (.cells #[.string (bts [40]), .string (bts [41]), .string (bts [44]), .string (bts [46]), .string (bts [61]), .string (bts [60]), .string (bts [62]), .string (bts [43]), .string (bts [45]), .string (bts [42])] 9)) := (Below.refl _ _).alloc (Nat.le_refl _) _
                obtain ⟨w10, hw10⟩ : ∃ w10, w10 = w4.alloc (.cells #[.string (bts [40]), .string (bts [41]), .string (bts [44]), .string (bts [46]), .string (bts [61]), .string (bts [60]), .string (bts [62]), .string (bts [43]), .string (bts [45]), .string (bts [42])] 9) := ⟨_, rfl⟩
                rw [← hw10] at hO10 hB10
                have HI3 := Lib.hid (in_any w4.heap.size 0 10 oneL (bts ((s.data.toList.drop o).take 1)) w10 (by decide) (fun i x hx => by rw [Nat.zero_add, hO10.cell, List.getElem?_map, hx]; rfl))
                simp only at HI3
                have HA10 := Lib.hid (HA4.out.below hB10)
                have HW10 := Lib.hid hw10
                obtain ⟨T1, hT1⟩ : ∃ T, bts ((s.data.toList.drop o).take 1) = T := ⟨_, rfl⟩
                rw [hT1] at HI3 hE1
                have HTt1 := Lib.hid hT1
                clear hw10 hO10 hB10 hT1 HA4
                cases hi1 : inB oneL ((s.data.toList.drop o).take 1) with
                | true =>
                  rw [hi1] at HI3
                  have HTk : Hid (tokOf kindW (s.data.toList.drop o) = some (5, (s.data.toList.drop o).take 1)) := by show _ = _; rw [HTk1.out, if_pos hi1]; rfl
                  have HLn : Hid (((s.data.toList.drop o).take 1).length = 1) := len_one hi1
                  clear hi1
                  go_wp2_with fail
                  rw [← HW10.out]
                  refine HI3.out.mono ?_
                  rintro e w' ⟨rfl, rfl⟩
                  have HOw := Lib.hid ((HA10.out.1.kept ((Kept.refl [] w10).alloc (.cells #[.int .i64 5, .string T1, .int .i64 (o : Int)] 37)) (fun _ _ h => by cases h)).owns)
                  have HNw : Hid (∀ k u, (tkC (5, ((s.data.toList.drop o).take 1), o))[k]? = some u → (w10.alloc (.cells #[.int .i64 5, .string T1, .int .i64 (o : Int)] 37)).cell? ((⟨w10.heap.size, 0, none⟩ : Addr).add k) = some u) := fun k u hk => by
                    have hv : Own (w10.alloc (.cells #[.int .i64 5, .string T1, .int .i64 (o : Int)] 37)) w10.heap.size 37 (tkC (5, ((s.data.toList.drop o).take 1), o)) := by
                      rw [show tkC (5, ((s.data.toList.drop o).take 1), o) = [.int .i64 5, .string T1, .int .i64 (o : Int)] by show [_, Value.string (bts _), _] = _; rw [HTt1.out]; rfl]
                      exact heap_alloc_new w10 _
                    rw [Addr.add_lit, Nat.zero_add, hv.cell]
                    exact hk
                  have hone : ∀ u ∈ tkC (5, ((s.data.toList.drop o).take 1), o), u.oneCell' = true := by simp [Value.oneCell']
                  go_wp2_with (at_builtin; refine wpList_append_own_at _ rfl _ _ 28 rfl 0 37 i0 _ 3 32 Tryd.underlying28 hi0 hz0 hzs hzb rfl (by decide) (.slice A0 pre.length c0) pre.length (flatT pre) rfl HOw.out ⟨w10.heap.size, 0, none⟩ 1 1 (tkC (5, ((s.data.toList.drop o).take 1), o)) rfl rfl HNw.out hone hb1 hb2 (Nat.zero_le _) ?_; intro v' w3 ho hg _ hat; obtain ⟨g1, cap1, rfl⟩ := owns_val3 ho; have hQ := HA10.out.push HS0.out HDn.out HTk.out ho hg hat; rw [HLn.out] at hQ; have HQ := Lib.hid hQ; clear ho hg hat hQ)
                  go_roundw
                  case rel => exact ⟨o + 1, _, by omega, by go_num, rfl, HQ⟩
                  case measure => simp [intOf]; omega
                | false =>
                  rw [hi1] at HI3
                  have HQ := Lib.hid (HA10.out.bad HS0.out HDn.out (by rw [HTk1.out, if_neg (by simp [hi1])]; rfl))
                  clear hi1
                  go_wp2_with fail
                  rw [← HW10.out]
                  refine HI3.out.mono ?_
                  rintro e w' ⟨rfl, rfl⟩
                  clear hE1
                  go_wp2
                  go_ret2
                  exact HQ.out
            · have h2i : (s.size : Int) < (o : Int) + 2 := by omega
              have hi2 : inB twoL ((s.data.toList.drop o).take 2) = false := by
                cases h : inB twoL ((s.data.toList.drop o).take 2) with
                | false => rfl
                | true => have := len_two h; omega
              have HTk1 : Hid (tokOf kindW (s.data.toList.drop o) = (if inB oneL ((s.data.toList.drop o).take 1) = true then some ((s.data.toList.drop o).take 1) else none).map fun p => (5, p)) := by show _ = _; rw [HTk0.out, if_neg (by simp [hi2])]
              obtain ⟨w4, hw4⟩ : ∃ w4, w4 = wr := ⟨_, rfl⟩
              have HA4 : Hid (RfA w s R o pre G (.slice A0 pre.length c0) w4) := by rw [hw4]; exact HA.out
              rw [← hw4]
              clear hi2 hl1 hw4 HA
              go_wp2_with fail
              refine (HI1.out _).mono ?_
              rintro e w' ⟨rfl, rfl⟩
              have hE1 : s.extract o (o + 1) = bts ((s.data.toList.drop o).take 1) := by rw [← bts_of (s.extract o _), ref_part, Nat.add_sub_cancel_left]
              have hO10 : Own (w4.alloc (.cells #[.string (bts [40]), .string (bts [41]), .string (bts [44]), .string (bts [46]), .string (bts [61]), .string (bts [60]), .string (bts [62]), .string (bts [43]), .string (bts [45]), .string (bts [42])] 9)) w4.heap.size 9 (oneL.map fun l => .string (bts l)) := heap_alloc_new w4 _
              have hB10 : Below w4.heap.size w4 (w4.alloc (.cells #[.string (bts [40]), .string (bts [41]), .string (bts [44]), .string (bts [46]), .string (bts [61]), .string (bts [60]), .string (bts [62]), .string (bts [43]), .string (bts [45]), .string (bts [42])] 9)) := (Below.refl _ _).alloc (Nat.le_refl _) _
              obtain ⟨w10, hw10⟩ : ∃ w10, w10 = w4.alloc (.cells #[.string (bts [40]), .string (bts [41]), .string (bts [44]), .string (bts [46]), .string (bts [61]), .string (bts [60]), .string (bts [62]), .string (bts [43]), .string (bts [45]), .string (bts [42])] 9) := ⟨_, rfl⟩
              rw [← hw10] at hO10 hB10
              have HI3 := Lib.hid (in_any w4.heap.size 0 10 oneL (bts ((s.data.toList.drop o).take 1)) w10 (by decide) (fun i x hx => by rw [Nat.zero_add, hO10.cell, List.getElem?_map, hx]; rfl))
              simp only at HI3
              have HA10 := Lib.hid (HA4.out.below hB10)
              have HW10 := Lib.hid hw10
              obtain ⟨T1, hT1⟩ : ∃ T, bts ((s.data.toList.drop o).take 1) = T := ⟨_, rfl⟩
              rw [hT1] at HI3 hE1
              have HTt1 := Lib.hid hT1
              clear hw10 hO10 hB10 hT1 HA4
              cases hi1 : inB oneL ((s.data.toList.drop o).take 1) with
              | true =>
                rw [hi1] at HI3
                have HTk : Hid (tokOf kindW (s.data.toList.drop o) = some (5, (s.data.toList.drop o).take 1)) := by show _ = _; rw [HTk1.out, if_pos hi1]; rfl
                have HLn : Hid (((s.data.toList.drop o).take 1).length = 1) := len_one hi1
                clear hi1
                go_wp2_with fail
                rw [← HW10.out]
                refine HI3.out.mono ?_
                rintro e w' ⟨rfl, rfl⟩
                have HOw := Lib.hid ((HA10.out.1.kept ((Kept.refl [] w10).alloc (.cells #[.int .i64 5, .string T1, .int .i64 (o : Int)] 37)) (fun _ _ h => by cases h)).owns)
                have HNw : Hid (∀ k u, (tkC (5, ((s.data.toList.drop o).take 1), o))[k]? = some u → (w10.alloc (.cells #[.int .i64 5, .string T1, .int .i64 (o : Int)] 37)).cell? ((⟨w10.heap.size, 0, none⟩ : Addr).add k) = some u) := fun k u hk => by
                  have hv : Own (w10.alloc (.cells #[.int .i64 5, .string T1, .int .i64 (o : Int)] 37)) w10.heap.size 37 (tkC (5, ((s.data.toList.drop o).take 1), o)) := by
                    rw [show tkC (5, ((s.data.toList.drop o).take 1), o) = [.int .i64 5, .string T1, .int .i64 (o : Int)] by show [_, Value.string (bts _), _] = _; rw [HTt1.out]; rfl]
                    exact heap_alloc_new w10 _
                  rw [Addr.add_lit, Nat.zero_add, hv.cell]
                  exact hk
                have hone : ∀ u ∈ tkC (5, ((s.data.toList.drop o).take 1), o), u.oneCell' = true := by simp [Value.oneCell']
                go_wp2_with (at_builtin; refine wpList_append_own_at _ rfl _ _ 28 rfl 0 37 i0 _ 3 32 Tryd.underlying28 hi0 hz0 hzs hzb rfl (by decide) (.slice A0 pre.length c0) pre.length (flatT pre) rfl HOw.out ⟨w10.heap.size, 0, none⟩ 1 1 (tkC (5, ((s.data.toList.drop o).take 1), o)) rfl rfl HNw.out hone hb1 hb2 (Nat.zero_le _) ?_; intro v' w3 ho hg _ hat; obtain ⟨g1, cap1, rfl⟩ := owns_val3 ho; have hQ := HA10.out.push HS0.out HDn.out HTk.out ho hg hat; rw [HLn.out] at hQ; have HQ := Lib.hid hQ; clear ho hg hat hQ)
                go_roundw
                case rel => exact ⟨o + 1, _, by omega, by go_num, rfl, HQ⟩
                case measure => simp [intOf]; omega
              | false =>
                rw [hi1] at HI3
                have HQ := Lib.hid (HA10.out.bad HS0.out HDn.out (by rw [HTk1.out, if_neg (by simp [hi1])]; rfl))
                clear hi1
                go_wp2_with fail
                rw [← HW10.out]
                refine HI3.out.mono ?_
                rintro e w' ⟨rfl, rfl⟩
                clear hE1
                go_wp2
                go_ret2
                exact HQ.out
          | true =>
            have h95 : ((s[o].toNat : Int) != 95) = false := by rw [hwb] at hin; simpa using hin
            rw [hwb] at HI1 hin
            clear hin hwb
            have hl1 : (s.data.toList.drop o).length = s.size - o := by simp
            by_cases h2 : o + 2 ≤ s.size
            · have h2i : (o : Int) + 2 ≤ (s.size : Int) := by omega
              have hE2 : s.extract o (o + 2) = bts ((s.data.toList.drop o).take 2) := by rw [← bts_of (s.extract o _), ref_part, Nat.add_sub_cancel_left]
              have hO4 : Own (wr.alloc (.cells #[.string (bts [58,45]), .string (bts [33,61]), .string (bts [60,61]), .string (bts [62,61])] 9)) wr.heap.size 9 (twoL.map fun l => .string (bts l)) := heap_alloc_new wr _
              have hB4 : Below wr.heap.size wr (wr.alloc (.cells #[.string (bts [58,45]), .string (bts [33,61]), .string (bts [60,61]), .string (bts [62,61])] 9)) := (Below.refl _ _).alloc (Nat.le_refl _) _
              obtain ⟨w4, hw4⟩ : ∃ w4, w4 = wr.alloc (.cells #[.string (bts [58,45]), .string (bts [33,61]), .string (bts [60,61]), .string (bts [62,61])] 9) := ⟨_, rfl⟩
              rw [← hw4] at hO4 hB4
              have HI2 := Lib.hid (in_any wr.heap.size 0 4 twoL (bts ((s.data.toList.drop o).take 2)) w4 (by decide) (fun i x hx => by rw [Nat.zero_add, hO4.cell, List.getElem?_map, hx]; rfl))
              simp only at HI2
              have HA4 := Lib.hid (HA.out.below hB4)
              have HW4 := Lib.hid hw4
              obtain ⟨T2, hT2⟩ : ∃ T, bts ((s.data.toList.drop o).take 2) = T := ⟨_, rfl⟩
              rw [hT2] at HI2 hE2
              have HTt2 := Lib.hid hT2
              clear hw4 hO4 hB4 hT2 HA
              cases hi2 : inB twoL ((s.data.toList.drop o).take 2) with
              | true =>
                rw [hi2] at HI2
                have HTk : Hid (tokOf kindW (s.data.toList.drop o) = some (5, (s.data.toList.drop o).take 2)) := by show _ = _; rw [HTk0.out, if_pos hi2]; rfl
                have HLn : Hid (((s.data.toList.drop o).take 2).length = 2) := by show _ = _; rw [List.length_take, hl1]; omega
                clear hi2 hl1
                go_wp2_with fail
                refine (HI1.out _).mono ?_
                rintro e w' ⟨rfl, rfl⟩
                go_wp2_with fail
                rw [← HW4.out]
                refine HI2.out.mono ?_
                rintro e w' ⟨rfl, rfl⟩
                have HOw := Lib.hid ((HA4.out.1.kept ((Kept.refl [] w4).alloc (.cells #[.int .i64 5, .string T2, .int .i64 (o : Int)] 37)) (fun _ _ h => by cases h)).owns)
                have HNw : Hid (∀ k u, (tkC (5, ((s.data.toList.drop o).take 2), o))[k]? = some u → (w4.alloc (.cells #[.int .i64 5, .string T2, .int .i64 (o : Int)] 37)).cell? ((⟨w4.heap.size, 0, none⟩ : Addr).add k) = some u) := fun k u hk => by
                  have hv : Own (w4.alloc (.cells #[.int .i64 5, .string T2, .int .i64 (o : Int)] 37)) w4.heap.size 37 (tkC (5, ((s.data.toList.drop o).take 2), o)) := by
                    rw [show tkC (5, ((s.data.toList.drop o).take 2), o) = [.int .i64 5, .string T2, .int .i64 (o : Int)] by show [_, Value.string (bts _), _] = _; rw [HTt2.out]; rfl]
                    exact heap_alloc_new w4 _
                  rw [Addr.add_lit, Nat.zero_add, hv.cell]
                  exact hk
                have hone : ∀ u ∈ tkC (5, ((s.data.toList.drop o).take 2), o), u.oneCell' = true := by simp [Value.oneCell']
                go_wp2_with (at_builtin; refine wpList_append_own_at _ rfl _ _ 28 rfl 0 37 i0 _ 3 32 Tryd.underlying28 hi0 hz0 hzs hzb rfl (by decide) (.slice A0 pre.length c0) pre.length (flatT pre) rfl HOw.out ⟨w4.heap.size, 0, none⟩ 1 1 (tkC (5, ((s.data.toList.drop o).take 2), o)) rfl rfl HNw.out hone hb1 hb2 (Nat.zero_le _) ?_; intro v' w3 ho hg _ hat; obtain ⟨g1, cap1, rfl⟩ := owns_val3 ho; have hQ := HA4.out.push HS0.out HDn.out HTk.out ho hg hat; rw [HLn.out] at hQ; have HQ := Lib.hid hQ; clear ho hg hat hQ)
                go_roundw
                case rel => exact ⟨o + 2, _, by omega, by go_num, rfl, HQ⟩
                case measure => simp [intOf]; omega
              | false =>
                rw [hi2] at HI2
                have HTk1 : Hid (tokOf kindW (s.data.toList.drop o) = (if inB oneL ((s.data.toList.drop o).take 1) = true then some ((s.data.toList.drop o).take 1) else none).map fun p => (5, p)) := by show _ = _; rw [HTk0.out, if_neg (by simp [hi2])]
                clear hi2 hl1
                go_wp2_with fail
                refine (HI1.out _).mono ?_
                rintro e w' ⟨rfl, rfl⟩
                go_wp2_with fail
                rw [← HW4.out]
                refine HI2.out.mono ?_
                rintro e w' ⟨rfl, rfl⟩
                clear hE2 HW4 HI2
                have hE1 : s.extract o (o + 1) = bts ((s.data.toList.drop o).take 1) := by rw [← bts_of (s.extract o _), ref_part, Nat.add_sub_cancel_left]
                have hO10 : Own (w4.alloc (.cells #[.string (bts [40]), .string (bts [41]), .string (bts [44]), .string (bts [46]), .string (bts [61]), .string (bts [60]), .string (bts [62]), .string (bts [43]), .string (bts [45]), .string (bts [42])] 9)) w4.heap.size 9 (oneL.map fun l => .string (bts l)) := heap_alloc_new w4 _
                have hB10 : Below w4.heap.size w4 (w4.alloc (.cells #[.string (bts [40]), .string (bts [41]), .string (bts [44]), .string (bts [46]), .string (bts [61]), .string (bts [60]), .string (bts [62]), .string (bts [43]), .string (bts [45]), .string (bts [42])] 9)) := (Below.refl _ _).alloc (Nat.le_refl _) _
                obtain ⟨w10, hw10⟩ : ∃ w10, w10 = w4.alloc (.cells #[.string (bts [40]), .string (bts [41]), .string (bts [44]), .string (bts [46]), .string (bts [61]), .string (bts [60]), .string (bts [62]), .string (bts [43]), .string (bts [45]), .string (bts [42])] 9) := ⟨_, rfl⟩
                rw [← hw10] at hO10 hB10
                have HI3 := Lib.hid (in_any w4.heap.size 0 10 oneL (bts ((s.data.toList.drop o).take 1)) w10 (by decide) (fun i x hx => by rw [Nat.zero_add, hO10.cell, List.getElem?_map, hx]; rfl))
                simp only at HI3
                have HA10 := Lib.hid (HA4.out.below hB10)
                have HW10 := Lib.hid hw10
                obtain ⟨T1, hT1⟩ : ∃ T, bts ((s.data.toList.drop o).take 1) = T := ⟨_, rfl⟩
                rw [hT1] at HI3 hE1
                have HTt1 := Lib.hid hT1
                clear hw10 hO10 hB10 hT1 HA4
                cases hi1 : inB oneL ((s.data.toList.drop o).take 1) with
                | true =>
                  rw [hi1] at HI3
                  have HTk : Hid (tokOf kindW (s.data.toList.drop o) = some (5, (s.data.toList.drop o).take 1)) := by show _ = _; rw [HTk1.out, if_pos hi1]; rfl
                  have HLn : Hid (((s.data.toList.drop o).take 1).length = 1) := len_one hi1
                  clear hi1
                  go_wp2_with fail
                  rw [← HW10.out]
                  refine HI3.out.mono ?_
                  rintro e w' ⟨rfl, rfl⟩
                  have HOw := Lib.hid ((HA10.out.1.kept ((Kept.refl [] w10).alloc (.cells #[.int .i64 5, .string T1, .int .i64 (o : Int)] 37)) (fun _ _ h => by cases h)).owns)
                  have HNw : Hid (∀ k u, (tkC (5, ((s.data.toList.drop o).take 1), o))[k]? = some u → (w10.alloc (.cells #[.int .i64 5, .string T1, .int .i64 (o : Int)] 37)).cell? ((⟨w10.heap.size, 0, none⟩ : Addr).add k) = some u) := fun k u hk => by
                    have hv : Own (w10.alloc (.cells #[.int .i64 5, .string T1, .int .i64 (o : Int)] 37)) w10.heap.size 37 (tkC (5, ((s.data.toList.drop o).take 1), o)) := by
                      rw [show tkC (5, ((s.data.toList.drop o).take 1), o) = [.int .i64 5, .string T1, .int .i64 (o : Int)] by show [_, Value.string (bts _), _] = _; rw [HTt1.out]; rfl]
                      exact heap_alloc_new w10 _
                    rw [Addr.add_lit, Nat.zero_add, hv.cell]
                    exact hk
                  have hone : ∀ u ∈ tkC (5, ((s.data.toList.drop o).take 1), o), u.oneCell' = true := by simp [Value.oneCell']
                  go_wp2_with (at_builtin; refine wpList_append_own_at _ rfl _ _ 28 rfl 0 37 i0 _ 3 32 Tryd.underlying28 hi0 hz0 hzs hzb rfl (by decide) (.slice A0 pre.length c0) pre.length (flatT pre) rfl HOw.out ⟨w10.heap.size, 0, none⟩ 1 1 (tkC (5, ((s.data.toList.drop o).take 1), o)) rfl rfl HNw.out hone hb1 hb2 (Nat.zero_le _) ?_; intro v' w3 ho hg _ hat; obtain ⟨g1, cap1, rfl⟩ := owns_val3 ho; have hQ := HA10.out.push HS0.out HDn.out HTk.out ho hg hat; rw [HLn.out] at hQ; have HQ := Lib.hid hQ; clear ho hg hat hQ)
                  go_roundw
                  case rel => exact ⟨o + 1, _, by omega, by go_num, rfl, HQ⟩
                  case measure => simp [intOf]; omega
                | false =>
                  rw [hi1] at HI3
                  have HQ := Lib.hid (HA10.out.bad HS0.out HDn.out (by rw [HTk1.out, if_neg (by simp [hi1])]; rfl))
                  clear hi1
                  go_wp2_with fail
                  rw [← HW10.out]
                  refine HI3.out.mono ?_
                  rintro e w' ⟨rfl, rfl⟩
                  clear hE1
                  go_wp2
                  go_ret2
                  exact HQ.out
            · have h2i : (s.size : Int) < (o : Int) + 2 := by omega
              have hi2 : inB twoL ((s.data.toList.drop o).take 2) = false := by
                cases h : inB twoL ((s.data.toList.drop o).take 2) with
                | false => rfl
                | true => have := len_two h; omega
              have HTk1 : Hid (tokOf kindW (s.data.toList.drop o) = (if inB oneL ((s.data.toList.drop o).take 1) = true then some ((s.data.toList.drop o).take 1) else none).map fun p => (5, p)) := by show _ = _; rw [HTk0.out, if_neg (by simp [hi2])]
              obtain ⟨w4, hw4⟩ : ∃ w4, w4 = wr := ⟨_, rfl⟩
              have HA4 : Hid (RfA w s R o pre G (.slice A0 pre.length c0) w4) := by rw [hw4]; exact HA.out
              rw [← hw4]
              clear hi2 hl1 hw4 HA
              go_wp2_with fail
              refine (HI1.out _).mono ?_
              rintro e w' ⟨rfl, rfl⟩
              have hE1 : s.extract o (o + 1) = bts ((s.data.toList.drop o).take 1) := by rw [← bts_of (s.extract o _), ref_part, Nat.add_sub_cancel_left]
              have hO10 : Own (w4.alloc (.cells #[.string (bts [40]), .string (bts [41]), .string (bts [44]), .string (bts [46]), .string (bts [61]), .string (bts [60]), .string (bts [62]), .string (bts [43]), .string (bts [45]), .string (bts [42])] 9)) w4.heap.size 9 (oneL.map fun l => .string (bts l)) := heap_alloc_new w4 _
              have hB10 : Below w4.heap.size w4 (w4.alloc (.cells #[.string (bts [40]), .string (bts [41]), .string (bts [44]), .string (bts [46]), .string (bts [61]), .string (bts [60]), .string (bts [62]), .string (bts [43]), .string (bts [45]), .string (bts [42])] 9)) := (Below.refl _ _).alloc (Nat.le_refl _) _
              obtain ⟨w10, hw10⟩ : ∃ w10, w10 = w4.alloc (.cells #[.string (bts [40]), .string (bts [41]), .string (bts [44]), .string (bts [46]), .string (bts [61]), .string (bts [60]), .string (bts [62]), .string (bts [43]), .string (bts [45]), .string (bts [42])] 9) := ⟨_, rfl⟩
              rw [← hw10] at hO10 hB10
              have HI3 := Lib.hid (in_any w4.heap.size 0 10 oneL (bts ((s.data.toList.drop o).take 1)) w10 (by decide) (fun i x hx => by rw [Nat.zero_add, hO10.cell, List.getElem?_map, hx]; rfl))
              simp only at HI3
              have HA10 := Lib.hid (HA4.out.below hB10)
              have HW10 := Lib.hid hw10
              obtain ⟨T1, hT1⟩ : ∃ T, bts ((s.data.toList.drop o).take 1) = T := ⟨_, rfl⟩
              rw [hT1] at HI3 hE1
              have HTt1 := Lib.hid hT1
              clear hw10 hO10 hB10 hT1 HA4
              cases hi1 : inB oneL ((s.data.toList.drop o).take 1) with
              | true =>
                rw [hi1] at HI3
                have HTk : Hid (tokOf kindW (s.data.toList.drop o) = some (5, (s.data.toList.drop o).take 1)) := by show _ = _; rw [HTk1.out, if_pos hi1]; rfl
                have HLn : Hid (((s.data.toList.drop o).take 1).length = 1) := len_one hi1
                clear hi1
                go_wp2_with fail
                rw [← HW10.out]
                refine HI3.out.mono ?_
                rintro e w' ⟨rfl, rfl⟩
                have HOw := Lib.hid ((HA10.out.1.kept ((Kept.refl [] w10).alloc (.cells #[.int .i64 5, .string T1, .int .i64 (o : Int)] 37)) (fun _ _ h => by cases h)).owns)
                have HNw : Hid (∀ k u, (tkC (5, ((s.data.toList.drop o).take 1), o))[k]? = some u → (w10.alloc (.cells #[.int .i64 5, .string T1, .int .i64 (o : Int)] 37)).cell? ((⟨w10.heap.size, 0, none⟩ : Addr).add k) = some u) := fun k u hk => by
                  have hv : Own (w10.alloc (.cells #[.int .i64 5, .string T1, .int .i64 (o : Int)] 37)) w10.heap.size 37 (tkC (5, ((s.data.toList.drop o).take 1), o)) := by
                    rw [show tkC (5, ((s.data.toList.drop o).take 1), o) = [.int .i64 5, .string T1, .int .i64 (o : Int)] by show [_, Value.string (bts _), _] = _; rw [HTt1.out]; rfl]
                    exact heap_alloc_new w10 _
                  rw [Addr.add_lit, Nat.zero_add, hv.cell]
                  exact hk
                have hone : ∀ u ∈ tkC (5, ((s.data.toList.drop o).take 1), o), u.oneCell' = true := by simp [Value.oneCell']
                go_wp2_with (at_builtin; refine wpList_append_own_at _ rfl _ _ 28 rfl 0 37 i0 _ 3 32 Tryd.underlying28 hi0 hz0 hzs hzb rfl (by decide) (.slice A0 pre.length c0) pre.length (flatT pre) rfl HOw.out ⟨w10.heap.size, 0, none⟩ 1 1 (tkC (5, ((s.data.toList.drop o).take 1), o)) rfl rfl HNw.out hone hb1 hb2 (Nat.zero_le _) ?_; intro v' w3 ho hg _ hat; obtain ⟨g1, cap1, rfl⟩ := owns_val3 ho; have hQ := HA10.out.push HS0.out HDn.out HTk.out ho hg hat; rw [HLn.out] at hQ; have HQ := Lib.hid hQ; clear ho hg hat hQ)
                go_roundw
                case rel => exact ⟨o + 1, _, by omega, by go_num, rfl, HQ⟩
                case measure => simp [intOf]; omega
              | false =>
                rw [hi1] at HI3
                have HQ := Lib.hid (HA10.out.bad HS0.out HDn.out (by rw [HTk1.out, if_neg (by simp [hi1])]; rfl))
                clear hi1
                go_wp2_with fail
                rw [← HW10.out]
                refine HI3.out.mono ?_
                rintro e w' ⟨rfl, rfl⟩
                clear hE1
                go_wp2
                go_ret2
                exact HQ.out
    · have HQ := Lib.hid (HA.out.fin (List.drop_eq_nil_of_le (by simp; omega)))
      clear HA
      go_wp2
      go_ret2
      exact HQ.out
end Go.Proofs.YtgjcaadgkeebpaaDoor
