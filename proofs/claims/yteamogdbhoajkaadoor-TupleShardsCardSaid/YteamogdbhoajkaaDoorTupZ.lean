/- TupleShards' walk: the law's own steps, for every two tuples and any number of workers. Conditions: the library's table; texts within the form's reach; that the chapter's example is so (proved beside). -/
import Derived.Test.YteamogdbhoajkaaDoorTupX
namespace Go.Proofs.YteamogdbhoajkaaDoor
open Go.RowKit Go.Deep

/-- the places below k at which two tuples are alike. -/
def sameK (a b : List V3) : Nat → List Int
  | 0 => []
  | k + 1 => if k < b.length ∧ a[k]? = b[k]? then sameK a b k ++ [(k : Int)] else sameK a b k
theorem same_len (a b : List V3) : ∀ k, (sameK a b k).length ≤ k
  | 0 => Nat.le_refl _
  | k + 1 => by
    have := same_len a b k
    unfold sameK
    split
    · simp; omega
    · omega
theorem same_mem (a b : List V3) : ∀ k, ∀ z ∈ sameK a b k, ∃ m : Nat, z = (m : Int) ∧ m < k ∧ m < b.length ∧ a[m]? = b[m]?
  | 0, z, hz => by cases hz
  | k + 1, z, hz => by
    unfold sameK at hz
    split at hz
    · rename_i h
      rcases List.mem_append.1 hz with hz | hz
      · obtain ⟨m, h1, h2, h3, h4⟩ := same_mem a b k z hz
        exact ⟨m, h1, by omega, h3, h4⟩
      · simp at hz
        exact ⟨k, hz, by omega, h.1, h.2⟩
    · obtain ⟨m, h1, h2, h3, h4⟩ := same_mem a b k z hz
      exact ⟨m, h1, by omega, h3, h4⟩
theorem same_pick (a b : List V3) : pickT a (sameK a b a.length) = pickT b (sameK a b a.length) := by
  unfold pickT
  apply List.map_congr_left
  intro z hz
  obtain ⟨m, rfl, _, _, h⟩ := same_mem a b _ z hz
  simp only [List.getD, Int.toNat_natCast, h]
theorem same_good (a b : List V3) : (sameK a b a.length).any (badC a.length) = false ∧ (sameK a b a.length).any (badC b.length) = false := by
  constructor
  · rw [List.any_eq_false]
    intro z hz
    obtain ⟨m, rfl, h1, h2, _⟩ := same_mem a b _ z hz
    simp [badC]; omega
  · rw [List.any_eq_false]
    intro z hz
    obtain ⟨m, rfl, h1, h2, _⟩ := same_mem a b _ z hz
    simp [badC]; omega
theorem same_shard (a b : List V3) (wk : Int) (h1 : 1 ≤ wk) (h2 : wk ≤ 16) (h6 : a.length ≤ 6) :
    ∃ s, 0 ≤ s ∧ s < wk ∧ shardT a wk (sameK a b a.length) = (s, 0) ∧ shardT b wk (sameK a b a.length) = (s, 0) := by
  obtain ⟨g1, g2⟩ := same_good a b
  have hl := same_len a b a.length
  refine ⟨hashT (pickT a (sameK a b a.length)) % wk, Int.emod_nonneg _ (by omega), Int.emod_lt_of_pos _ (by omega), ?_, ?_⟩
  · simp only [shardT, g1]
    rw [if_neg (by omega), if_neg (by simp), if_neg (by omega)]
  · simp only [shardT, g2]
    rw [if_neg (by omega), if_neg (by simp), if_neg (by omega), same_pick]

set_option maxRecDepth 100000 in
/-- '==' on values. -/
theorem eql3 {x y : V3} (h : x ≠ y) (w : World) : (binOp .eql 30 (vt x) (vt y)).run Tryd.prog w = .ok (.bool false) w := by
  have u3 := Tryd.underlying3
  have a3 := Tryd.isAgg3
  have z3 := Tryd.sizeOf3
  have uk := Tryd.underlying28
  have ak := Tryd.isAgg28
  have zk := Tryd.sizeOf28
  have us := Tryd.underlying9
  have aas := Tryd.isAgg9
  have zs := Tryd.sizeOf9
  have hS : Tryd.prog.underlying 30 = some (.struct (Tryd.prog.fieldsOf 30)) := by kernel_rfl
  have hp : Tryd.prog.stoodInHeld 30 = false := by kernel_rfl
  obtain ⟨xk, xn, xs⟩ := x
  obtain ⟨yk, yn, ys⟩ := y
  rw [run_eql_struct, show (10000 : Nat) = 9999 + 1 from rfl, run_equalIn_agg w 9999 30 _ _ hS hp]
  simp only [Program.fieldsOf, Tryd.underlying30]
  go_simp
  by_cases h1 : xk = yk
  · by_cases h2 : xn = yn
    · have h3 : ¬ xs = ys := fun e => h (by rw [h1, h2, e])
      simp [h1, h2]
      exact fun e => h3 (toList_inj e)
    · simp [h1, h2]
  · simp [h1]
/-- '[]int{}'. -/
theorem own_litI (w : World) : (w.alloc (.cells #[] 3)).ownsRow w.heap.size 3 1 (.slice (some ⟨w.heap.size, 0, none⟩) 0 0) 0 (ints []) :=
  ⟨rfl, .inr ⟨w.heap.size, 0, #[], rfl, Nat.le_refl _, heap_alloc_new w _, Nat.le_refl _, Nat.zero_le _, rfl, rfl⟩⟩

theorem wk_range (wk : Int) : 1 ≤ wrap64 (1 + wrap64 ((IntKind.u64.wrap wk).tmod 16)) ∧ wrap64 (1 + wrap64 ((IntKind.u64.wrap wk).tmod 16)) ≤ 16 := by
  have h0 : 0 ≤ IntKind.u64.wrap wk := by
    rw [IntKind.wrap_u64]
    omega
  have h1 := Int.tmod_nonneg 16 h0
  have h2 := Int.tmod_lt_of_pos (IntKind.u64.wrap wk) (b := 16) (by omega)
  generalize (IntKind.u64.wrap wk).tmod 16 = m at h1 h2
  unfold wrap64
  omega

set_option maxRecDepth 100000 in
set_option maxHeartbeats 2000000 in
theorem shards_walk (hal : AliveOk) (A A' : Option Addr) (c c' : Nat) (a b : List V3) (wk : Int) (hl : a.length ≤ maxLen) (hl' : b.length ≤ maxLen) (hi : Inb a) (hi' : Inb b) (w : World) (hT : Tab w) (hr : Row w A a) (hr' : Row w A' b) :
    Calls Tryd.prog 6 #[.slice A a.length c, .slice A' b.length c', .int .i64 wk] w fun e w' => e = .returned (.bool true) ∧ Below w.heap.size w w' := by
  have HI := Lib.hid hi
  have HI' := Lib.hid hi'
  have HT := Lib.hid hT
  have HR := Lib.hid hr
  have HR' := Lib.hid hr'
  have HL := Lib.hid hl
  have HL' := Lib.hid hl'
  have HAL := Lib.hid hal
  unfold maxLen at hl hl'
  clear hi hT hr hal hi' hr'
  go_enter Tryd.func6, Tryd.ntmps6
  go_wp2_with fail
  refine (HAL.out w HT.out).mono ?_
  rintro e w1 ⟨rfl, b1⟩
  have BA := Lib.hid (b1.alloc b1.size (.cells #[.slice A a.length c, .slice A' b.length c'] 23))
  have R1 := Lib.hid (HR.out.below BA.out)
  have R1' := Lib.hid (HR'.out.below BA.out)
  clear b1
  go_wp2_with fail
  refine (Long2 A A' c c' a b _ _ (by simp) (by go_simp) (by go_simp) R1.out HI.out HL.out R1'.out HI'.out HL'.out).mono ?_
  rintro e w2 ⟨r, rfl, hsm, b2⟩
  have B2 := Lib.hid (BA.out.trans (b2.mono BA.out.size))
  clear b2 R1 R1'
  cases r with
  | true =>
    clear hsm
    go_wp2
    go_ret
    exact ⟨rfl, B2.out⟩
  | false =>
    obtain ⟨_, hsh⟩ := hsm rfl (A, c, a) (by simp)
    obtain ⟨_, hsh'⟩ := hsm rfl (A', c', b) (by simp)
    have HSH : Hid (Short a) := hsh
    have HSH' : Hid (Short b) := hsh'
    clear hsm hsh hsh'
    by_cases h6 : (6 : Int) < (a.length : Int)
    · go_wp2
      go_ret
      exact ⟨rfl, B2.out⟩
    · by_cases h6' : (6 : Int) < (b.length : Int)
      · go_wp2
        go_ret
        exact ⟨rfl, B2.out⟩
      · go_wp2
        obtain ⟨hq1, hq2⟩ := wk_range wk
        generalize wrap64 (1 + wrap64 ((IntKind.u64.wrap wk).tmod 16)) = q at hq1 hq2
        have HB0 := Lib.hid ((Below.refl w2.heap.size w2).alloc (Nat.le_refl _) (.cells #[] 3))
        go_loopw [7, 37] (fun v j wr => ∃ k : Nat, k ≤ a.length ∧ j = .int .i64 k ∧ ∃ A1 c1 m1, v = .slice A1 m1 c1 ∧ m1 ≤ 6 ∧ Hid (wr.ownsRow w2.heap.size 3 1 (.slice A1 m1 c1) m1 (ints (sameK a b k))) ∧ Hid (Below w2.heap.size w2 wr)) (fun _ j _ => a.length - (intOf j).toNat)
        case atStart => exact ⟨0, Nat.zero_le _, rfl, _, 0, 0, rfl, by omega, own_litI w2, HB0.out⟩
        case round =>
          obtain ⟨k, hk, rfl, A1, c1, m1, rfl, hm1, HO, HB⟩ := hrel
          have BR := Lib.hid (B2.out.trans (HB.out.mono B2.out.size))
          by_cases hlt : k < a.length
          · obtain ⟨g, o, rfl, hgw, hc⟩ := HR.out.at_ hlt
            have hak : a[k]? = some a[k] := List.getElem?_eq_getElem hlt
            by_cases hltb : k < b.length
            · have hd : decide ((k : Int) < (b.length : Int)) = true := by simpa using hltb
              obtain ⟨g', o', rfl, hgw', hc'⟩ := HR'.out.at_ hltb
              have hbk : b[k]? = some b[k] := List.getElem?_eq_getElem hltb
              have HY := Lib.hid (fun (h : a[k] = b[k]) => show sameK a b (k + 1) = sameK a b k ++ [(k : Int)] from if_pos ⟨hltb, by rw [hak, hbk, h]⟩)
              have HX := Lib.hid (fun (h : ¬ a[k] = b[k]) => show sameK a b (k + 1) = sameK a b k from if_neg (fun e => h (by have := e.2; rw [hak, hbk] at this; injection this)))
              clear hak hbk
              generalize a[k] = x at hc HY HX
              generalize b[k] = y at hc' HY HX
              obtain ⟨xk, xn, xs⟩ := x
              obtain ⟨yk, yn, ys⟩ := y
              obtain ⟨c0, c1', c2⟩ := hc
              obtain ⟨d0, d1, d2⟩ := hc'
              have c0 := (BR.out.cell hgw).trans c0
              have c1' := (BR.out.cell hgw).trans c1'
              have c2 := (BR.out.cell hgw).trans c2
              have d0 := (BR.out.cell hgw').trans d0
              have d1 := (BR.out.cell hgw').trans d1
              have d2 := (BR.out.cell hgw').trans d2
              simp only at c0 c1' c2 d0 d1 d2
              by_cases hxy : ((xk, xn, xs) : V3) = (yk, yn, ys)
              · have HQ := Lib.hid (HY.out hxy)
                injection hxy with e1 e2
                injection e2 with e2 e3
                subst e1 e2 e3
                clear HX HY
                go_wp2_with fail
                go_quiet (fail)
                have HON := Lib.hid (show (wr.drewN nq).ownsRow w2.heap.size 3 1 (.slice A1 m1 c1) m1 (ints (sameK a b k)) from HO.out)
                have HBN := Lib.hid (below_drewN HB.out nq)
                have HSN := Lib.hid HBN.out.size
                obtain ⟨w5, hw5⟩ : ∃ w5, w5 = wr.drewN nq := ⟨_, rfl⟩
                rw [← hw5] at HON HBN HSN ⊢
                clear hw5 c0 c1' c2 d0 d1 d2 HO HB BR hd
                have hm1k : m1 ≤ 1000 := by omega
                go_wp2_with (at_builtin; go_loud (refine append_int _ rfl (.tmp 55) (.tmp 57) rfl w2.heap.size (sameK a b k) _ m1 rfl HON.out (k : Int) rfl hm1k HSN.out ?_))
                intro A5 c5 w6 ho6 hg6
                rw [← HQ.out] at ho6
                have HO6 := Lib.hid ho6
                have HB6 := Lib.hid ((HBN.out.alloc HSN.out (.cells #[.int .i64 (k : Int)] 3)).grown hg6 (by have := HSN.out; simp; omega) (fun g hgg => (HON.out.lt g hgg).1))
                have hm6 : m1 + 1 ≤ 6 := by
                  have h1 := ho6.1
                  have h2 := same_len a b (k + 1)
                  simp [ints] at h1
                  omega
                clear ho6 hg6 HON HBN HQ
                go_wp2
                go_roundw
                case rel => exact ⟨k + 1, by omega, by go_num, A5, c5, m1 + 1, rfl, hm6, HO6.out, HB6.out⟩
                case measure => simp [intOf]; omega
              · have HQ := Lib.hid (HX.out hxy)
                have kn := fun w => eql3 hxy w
                clear HX HY hxy
                go_wp2_with fail
                go_quiet (fail)
                have HON := Lib.hid (show (wr.drewN nq).ownsRow w2.heap.size 3 1 (.slice A1 m1 c1) m1 (ints (sameK a b k)) from HO.out)
                rw [← HQ.out] at HON
                have HBN := Lib.hid (below_drewN HB.out nq)
                clear c0 c1' c2 d0 d1 d2 HO HB BR kn
                go_wp2
                go_roundw
                case rel => exact ⟨k + 1, by omega, by go_num, A1, c1, m1, rfl, hm1, HON.out, HBN.out⟩
                case measure => simp [intOf]; omega
            · have hd : decide ((k : Int) < (b.length : Int)) = false := by simpa using hltb
              have HQ := Lib.hid (show sameK a b (k + 1) = sameK a b k from if_neg (fun e => hltb e.1))
              clear hak hc
              go_wp2_with fail
              go_quiet (fail)
              have HON := Lib.hid (show (wr.drewN nq).ownsRow w2.heap.size 3 1 (.slice A1 m1 c1) m1 (ints (sameK a b k)) from HO.out)
              rw [← HQ.out] at HON
              have HBN := Lib.hid (below_drewN HB.out nq)
              clear HO HB BR hd
              go_wp2
              go_roundw
              case rel => exact ⟨k + 1, by omega, by go_num, A1, c1, m1, rfl, hm1, HON.out, HBN.out⟩
              case measure => simp [intOf]; omega
          · have hkl : k = a.length := by omega
            subst hkl
            obtain ⟨hml, hcols⟩ := Cols.own HO.out
            obtain ⟨s, hs0, hs1, hsa, hsb⟩ := same_shard a b q hq1 hq2 (by omega)
            have hlen := same_len a b a.length
            subst hml
            have C1 := Lib.hid hcols
            have h1 := Shard_any A c a q A1 c1 (sameK a b a.length) (by omega) HL.out HSH.out wr (HT.out.below BR.out) (HR.out.below BR.out) hcols
            rw [hsa, err0] at h1
            have H1 := Lib.hid h1
            have HSB := Lib.hid hsb
            clear h1 hcols hsa hsb HO HB
            go_wp2_with fail
            refine H1.out.mono ?_
            rintro e w5 ⟨rfl, b5⟩
            have B5 := Lib.hid (BR.out.trans (b5.mono BR.out.size))
            have h2 := Shard_any A' c' b q A1 c1 (sameK a b a.length) (by omega) HL'.out HSH'.out w5 (HT.out.below B5.out) (HR'.out.below B5.out) (C1.out.below b5)
            rw [HSB.out, err0] at h2
            have H2 := Lib.hid h2
            clear h2 b5 H1 HSB
            go_wp2_with fail
            refine H2.out.mono ?_
            rintro e w6 ⟨rfl, b6⟩
            have B6 := Lib.hid (B5.out.trans (b6.mono B5.out.size))
            clear b6 H2
            go_wp2
            go_ret
            exact ⟨rfl, B6.out⟩
end Go.Proofs.YteamogdbhoajkaaDoor
