/- A head's text. Conditions: the tables as laid. -/
import Derived.Test.YtikohamfnnlhcaaGreatDoorPcShoF
set_option linter.unusedVariables false
set_option linter.unusedSimpArgs false
namespace Go.Proofs.YtikohamfnnlhcaaGreatDoor
open Go.RowKit Go.Deep Go.Shelf

theorem items_plain (l : List TTm) (col : Int) : l.mapIdx (itX 0 col) = l.map txTm := by
  refine List.ext_getElem? fun i => ?_
  rw [List.getElem?_mapIdx, List.getElem?_map]
  cases l[i]? with
  | none => rfl
  | some t => simp [itX]
theorem items_agg (l : List TTm) (agg : Int) (j : Nat) (t : TTm) (h0 : 0 < agg) (ht : l[j]? = some t) : l.mapIdx (itX agg (j : Int)) = (l.map txTm).set j (aggW agg ++ ([40] ++ (txTm t ++ [41]))) := by
  refine List.ext_getElem? fun i => ?_
  rw [List.getElem?_mapIdx]
  by_cases hi : i = j
  · subst hi
    have hlt : i < (l.map txTm).length := by rw [List.length_map]; exact (List.getElem?_eq_some_iff.1 ht).1
    rw [List.getElem?_set_self hlt, ht]
    simp only [Option.map_some, itX]
    rw [if_pos (by simpa using h0)]
  · rw [List.getElem?_set_ne (fun h => hi h.symm), List.getElem?_map]
    cases l[i]? with
    | none => rfl
    | some u =>
      simp only [Option.map_some, itX]
      rw [if_neg (by rintro ⟨_, h⟩; omega)]
theorem agg_cases {a : Int} (h : 1 ≤ a ∧ a ≤ 4) : ∃ j : Nat, a = (j : Int) ∧ j < 5 ∧ j ≠ 0 ∧ aggsL[j]? = some (aggW a) := by
  rcases (show a = 1 ∨ a = 2 ∨ a = 3 ∨ a = 4 by omega) with rfl | rfl | rfl | rfl
  · exact ⟨1, rfl, by omega, by omega, rfl⟩
  · exact ⟨2, rfl, by omega, by omega, rfl⟩
  · exact ⟨3, rfl, by omega, by omega, rfl⟩
  · exact ⟨4, rfl, by omega, by omega, rfl⟩
set_option maxRecDepth 100000 in
set_option maxHeartbeats 1000000 in
theorem head_plain (r : TRu) (A : Option Addr) (c : Nat) (B : Option Addr) (d : Nat) (W : World) (hr : rightAm r.head = true) (ha : r.agg = 0) (hV : RuV W r A B) (hL : Lays W) :
    Calls Tryz.prog 78 #[ruV r A c B d] W fun e W' => e = .returned (.string (bts (txHd r))) ∧ Below W.heap.size W W' := by
  obtain ⟨h1, h2, h3⟩ := rightAm_parts hr
  have hb : Below W.heap.size W (W.alloc (.cells #[.string r.head.rel, .slice A r.head.args.length c, .int .i64 r.agg, .int .i64 r.col, .slice B r.body.length d, .int .i64 r.pos] 52)) := (Below.refl _ _).alloc (Nat.le_refl _) _
  have HO : Hid (Own (W.alloc (.cells #[.string r.head.rel, .slice A r.head.args.length c, .int .i64 r.agg, .int .i64 r.col, .slice B r.body.length d, .int .i64 r.pos] 52)) W.heap.size 52 [.string r.head.rel, .slice A r.head.args.length c, .int .i64 r.agg, .int .i64 r.col, .slice B r.body.length d, .int .i64 r.pos]) := heap_alloc_new _ _
  have HB := Lib.hid hb
  have hal : r.head.args.length ≤ 100 := by omega
  have hrel : r.head.rel.size ≤ 100000 := by omega
  obtain ⟨xs, hxs⟩ : ∃ xs, xs = r.head.args.map txTm := ⟨_, rfl⟩
  have hxl : xs.length ≤ 6 := by rw [hxs, List.length_map]; exact h2
  have HE := Lib.hid (eachTm_any A c r.head.args _ hal (hV.am.pers (.of hb)).row (hL.below hb))
  rw [← hxs] at HE
  have hj := join_le (b := 32) (L := xs) (fun t ht => by
    rw [hxs] at ht
    obtain ⟨y, hy, rfl⟩ := List.mem_map.1 ht
    exact rightTm_len (h3 y hy))
  have hjl : (Lib.join xs [44, 32]).length ≤ 100000 := by
    have := Nat.mul_le_mul_right (32 + 2) hxl
    omega
  obtain ⟨z, hz⟩ : ∃ z, z = bts (txHd r) := ⟨_, rfl⟩
  have CL : Hid (∀ g W, Own W g 9 (xs.map fun x => .string (bts x)) → Calls Tryz.prog 104 #[.string r.head.rel, .slice (some ⟨g, 0, none⟩) xs.length xs.length] W fun e w' => e = .returned (.string z) ∧ Below W.heap.size W w') := fun g W ho => by
    rw [hz]
    unfold txHd
    rw [ha, items_plain, ← hxs]
    exact list_anyS r.head.rel g xs W ho hrel (by omega) hjl
  unfold ruV
  rw [← hz]
  clear hb hV hL hr h1 h2 h3 hj hjl hal hxs hrel hz
  generalize r.agg = ag at *
  subst ha
  go_enter Tryz.func78, Tryz.ntmps78
  go_wp2_with fail
  refine HE.out.mono ?_
  rintro e W2 ⟨g, rfl, hg, ho, b2⟩
  have HO2 := Lib.hid (HO.out.below b2)
  have HB2 := Lib.hid (HB.out.trans (b2.mono HB.out.size))
  have HC := Lib.hid (CL.out g W2 ho)
  have e0 := HO2.out.cell 0
  have e2 := HO2.out.cell 2
  have el := HO2.out.lt
  simp only [List.getElem?_cons_zero, List.getElem?_cons_succ] at e0 e2
  clear ho b2 HE HO HB CL
  go_wp2_with fail
  refine HC.out.mono ?_
  rintro e W3 ⟨rfl, b3⟩
  have HF := Lib.hid (HB2.out.trans (b3.mono HB2.out.size))
  clear b3 HC e0 e2
  go_wp2
  go_ret
  exact ⟨rfl, HF.out⟩
theorem ixAgg (j : Nat) (w : World) (h : j < 5) : (Instr.indexAt 187 (.pointer (some ⟨2, 0, none⟩)) (.int .i64 (j : Int))).run Tryz.prog w = .ok (.pointer (some ⟨2, j, none⟩)) w := by
  rcases (show j = 0 ∨ j = 1 ∨ j = 2 ∨ j = 3 ∨ j = 4 by omega) with rfl | rfl | rfl | rfl | rfl <;> kernel_rfl
theorem ixStr (g j n : Nat) (w : World) (h : j < n) : (Instr.indexAt 33 (.slice (some ⟨g, 0, none⟩) n n) (.int .i64 (j : Int))).run Tryz.prog w = .ok (.pointer (some ⟨g, j, none⟩)) w := by
  rw [run_indexAt_slice (P := Tryz.prog) (w := w) 33 ⟨g, 0, none⟩ n n .i64 j (by kernel_rfl), if_pos ⟨by omega, by omega⟩]
  have hs : (sizeOf (Tryz.prog.elem 33)).run Tryz.prog w = .ok 1 w := by kernel_rfl
  rw [hs]
  simp [Addr.add_lit, Result.andThen]
def hdVal (b g j q n : Nat) (aw tt it : List UInt8) : Nat → Value := fun k => if k = 0 then .slice (some ⟨g, 0, none⟩) n n else if k = 1 then .pointer (some ⟨b, 3, none⟩) else if k = 2 then .int .i64 (j : Int) else if k = 3 then .pointer (some ⟨b, 2, none⟩) else if k = 4 then .int .i64 (q : Int) else if k = 5 then .pointer (some ⟨2, q, none⟩) else if k = 6 then .string (bts aw) else if k = 7 then .slice (some ⟨g, 0, none⟩) n n else if k = 8 then .pointer (some ⟨b, 3, none⟩) else if k = 9 then .int .i64 (j : Int) else if k = 10 then .pointer (some ⟨g, j, none⟩) else if k = 11 then .string (bts tt) else if k = 12 then undef else if k = 13 then .string (bts it) else .pointer (some ⟨g, j, none⟩)
/-- what holds in a head's region between any two operations. -/
structure HJ (wa : World) (g j : Nat) (z t9 : ByteArray) (V : Nat → Value) (a0 : Act) (d : Nat → Bool) (a : Act) (w : World) : Prop where
  tm : a.tmps.size = 31
  df : a.defers = a0.defers
  fr : ∀ t, (∀ k, k < 15 → t ≠ 11 + k) → a.tmps.getD t undef = a0.tmps.getD t undef
  wld : ∃ w', Below wa.heap.size wa w' ∧ w = if d 15 = true then w'.setCell ⟨g, j, none⟩ (.string z) else w'
  got : ∀ k, k < 15 → k ≠ 12 → d k = true → a.tmps.getD (11 + k) undef = V k
  box : d 12 = true → ∃ b, a.tmps.getD 23 undef = .slice (some ⟨b, 0, none⟩) 1 1 ∧ wa.heap.size ≤ b ∧ (d 15 = false → Own w b 9 [.string t9])
  c15 : d 15 = true → d 13 = true
  c13 : d 13 = true → d 12 = true
  c12 : d 12 = true → d 11 = true
section
variable {wa : World} {g j : Nat} {z t9 : ByteArray} {V : Nat → Value} {a0 : Act} {d : Nat → Bool} {a : Act} {w : World}
theorem not_of {x y : Bool} (h : x = true → y = true) (hy : y = false) : x = false := by
  cases x with
  | false => rfl
  | true => rw [h rfl] at hy; cases hy
theorem HJ.no15 (h : HJ wa g j z t9 V a0 d a w) : d 13 = false → d 15 = false := not_of h.c15
theorem HJ.no13 (h : HJ wa g j z t9 V a0 d a w) : d 12 = false → d 13 = false := not_of h.c13
theorem HJ.no12 (h : HJ wa g j z t9 V a0 d a w) : d 11 = false → d 12 = false := not_of h.c12
theorem HJ.low (h : HJ wa g j z t9 V a0 d a w) (hz : d 15 = false) : Below wa.heap.size wa w := by
  obtain ⟨w', h1, h2⟩ := h.wld
  rw [hz] at h2
  rw [h2]
  exact h1
theorem HJ.cell (h : HJ wa g j z t9 V a0 d a w) {b k : Nat} {v : Value} (hb : b ≠ g) (hc : wa.cell? ⟨b, k, none⟩ = some v) : w.cell? ⟨b, k, none⟩ = some v := by
  obtain ⟨w', h1, h2⟩ := h.wld
  have h3 := (h1.cell (p := ⟨b, k, none⟩) (World.block_lt_of_cell? wa _ hc)).trans hc
  split at h2
  · rw [h2]
    exact (World.cell?_of_block (w := w') (Below.heap_setCell _ _ _ _ hb)).trans h3
  · rw [h2]; exact h3
theorem HJ.start (hs : a0.tmps.size = 31) (hb : Below wa.heap.size wa w) : HJ wa g j z t9 V a0 (fun _ => false) a0 w :=
  ⟨hs, rfl, (fun _ _ => rfl), ⟨w, hb, rfl⟩, (fun _ _ _ h => by cases h), (fun h => by cases h), (fun h => by cases h), (fun h => by cases h), (fun h => by cases h)⟩
theorem HJ.at_ (h : HJ wa g j z t9 V a0 d a w) {i : Nat} (hi : i < 15) {v : Value} {t : Nat} : (a.put (some (11 + i)) v).tmps.getD t undef = if t = 11 + i then v else a.tmps.getD t undef := getD_put (show 11 + i < a.tmps.size by rw [h.tm]; omega)
theorem HJ.read (h : HJ wa g j z t9 V a0 d a w) {i : Nat} (hi : i < 15) (hn : i ≠ 11 ∧ i ≠ 12 ∧ i ≠ 13 ∨ i = 11) {v : Value} (hv : v = V i) : HJ wa g j z t9 V a0 (upd d i) (a.put (some (11 + i)) v) w := by
  refine ⟨by simpa [Act.put] using h.tm, h.df, fun t ht => ?_, ?_, fun k hk h12 hd => ?_, fun hd => ?_, ?_, ?_, ?_⟩
  · rw [h.at_ hi, if_neg (ht i hi)]
    exact h.fr t ht
  · rw [upd_ne (by omega)]
    exact h.wld
  · rw [h.at_ hi]
    by_cases e : k = i
    · subst e
      rw [if_pos rfl]
      exact hv
    · rw [if_neg (by omega)]
      rw [upd_ne e] at hd
      exact h.got k hk h12 hd
  · rw [upd_ne (by omega)] at hd
    rw [h.at_ hi, if_neg (by omega), upd_ne (by omega)]
    exact h.box hd
  · rw [upd_ne (by omega), upd_ne (by omega)]
    exact h.c15
  · rw [upd_ne (by omega), upd_ne (by omega)]
    exact h.c13
  · rw [upd_ne (by omega)]
    intro h12
    by_cases e : 11 = i
    · subst e; exact upd_at
    · rw [upd_ne (by omega)]
      exact h.c12 h12
theorem HJ.alloc (h : HJ wa g j z t9 V a0 d a w) (hdi : d 12 = false) (hz : d 15 = false) (h11 : d 11 = true) : HJ wa g j z t9 V a0 (upd d 12) (a.put (some 23) (.slice (some ⟨w.heap.size, 0, none⟩) 1 1)) (w.alloc (.cells #[.string t9] 9)) := by
  have hb := h.low hz
  have hb2 : Below w.heap.size w (w.alloc (.cells #[.string t9] 9)) := (Below.refl _ _).alloc (Nat.le_refl _) _
  refine ⟨by simpa [Act.put] using h.tm, h.df, fun t ht => ?_, ⟨_, hb.trans (hb2.mono hb.size), by rw [upd_ne (by omega), hz]; rfl⟩, fun k hk h12 hd => ?_, fun _ => ?_, ?_, ?_, ?_⟩
  · rw [show (23 : Nat) = 11 + 12 from rfl, h.at_ (by omega), if_neg (ht 12 (by omega))]
    exact h.fr t ht
  · rw [upd_ne h12] at hd
    rw [show (23 : Nat) = 11 + 12 from rfl, h.at_ (by omega), if_neg (by omega)]
    exact h.got k hk h12 hd
  · refine ⟨w.heap.size, ?_, hb.size, fun _ => heap_alloc_new _ _⟩
    rw [show (23 : Nat) = 11 + 12 from rfl, h.at_ (by omega), if_pos rfl]
  · rw [upd_ne (by omega), upd_ne (by omega)]
    exact h.c15
  · exact fun _ => upd_at
  · rw [upd_ne (show 11 ≠ 12 by omega)]
    exact fun _ => h11
theorem HJ.call (h : HJ wa g j z t9 V a0 d a w) (hdi : d 13 = false) (hz : d 15 = false) {w' : World} (hb : Below w.heap.size w w') (h12 : d 12 = true) {v : Value} (hv : v = V 13 := by rfl) : HJ wa g j z t9 V a0 (upd d 13) (a.put (some 24) v) w' := by
  have hl := h.low hz
  refine ⟨by simpa [Act.put] using h.tm, h.df, fun t ht => ?_, ⟨_, hl.trans (hb.mono hl.size), by rw [upd_ne (by omega), hz]; rfl⟩, fun k hk h12 hd => ?_, fun hd => ?_, ?_, ?_, ?_⟩
  · rw [show (24 : Nat) = 11 + 13 from rfl, h.at_ (by omega), if_neg (ht 13 (by omega))]
    exact h.fr t ht
  · rw [show (24 : Nat) = 11 + 13 from rfl, h.at_ (by omega)]
    by_cases e : k = 13
    · subst e
      rw [if_pos rfl]
      exact hv
    · rw [if_neg (by omega)]
      rw [upd_ne e] at hd
      exact h.got k hk h12 hd
  · rw [upd_ne (by omega)] at hd
    obtain ⟨b, q1, q2, q3⟩ := h.box hd
    rw [show (24 : Nat) = 11 + 13 from rfl, h.at_ (by omega), if_neg (by omega)]
    exact ⟨b, q1, q2, fun _ => (q3 hz).below hb⟩
  · exact fun _ => upd_at
  · rw [upd_ne (show 12 ≠ 13 by omega)]
    exact fun _ => h12
  · rw [upd_ne (by omega), upd_ne (by omega)]
    exact h.c12
theorem HJ.store (h : HJ wa g j z t9 V a0 d a w) (hdi : d 15 = false) (h13 : d 13 = true) : HJ wa g j z t9 V a0 (upd d 15) a (w.setCell ⟨g, j, none⟩ (.string z)) := by
  refine ⟨h.tm, h.df, h.fr, ⟨w, h.low hdi, by rw [upd_at]; rfl⟩, fun k hk h12 hd => ?_, fun hd => ?_, ?_, ?_, ?_⟩
  · rw [upd_ne (by omega)] at hd
    exact h.got k hk h12 hd
  · rw [upd_ne (by omega)] at hd
    obtain ⟨b, q1, q2, q3⟩ := h.box hd
    exact ⟨b, q1, q2, fun hz => by rw [upd_at] at hz; cases hz⟩
  · rw [upd_ne (show 13 ≠ 15 by omega)]
    exact fun _ => h13
  · rw [upd_ne (by omega), upd_ne (by omega)]
    exact h.c13
  · rw [upd_ne (by omega), upd_ne (by omega)]
    exact h.c12
end
theorem st_one {o : Oper} {a : Act} {w : World} {K : Act → World → Prop} {Q : Exit → Act → World → Prop} (x y : Operand) (ho : o.op = .store 9 x y) {g j : Nat} {s s0 : ByteArray} (hx : a.eval x = .pointer (some ⟨g, j, none⟩)) (hy : a.eval y = .string s)
    (hc : w.cell? ⟨g, j, none⟩ = some (.string s0)) (hf : w.frozen? ⟨g, j, none⟩ = false) (h : K (a.put o.dst undef) (w.setCell ⟨g, j, none⟩ (.string s))) : o.wp Tryz.prog a w K Q := by
  have hr : (storeVar 9 ⟨g, j, none⟩ (.string s)).run Tryz.prog w = .ok () (w.setCell ⟨g, j, none⟩ (.string s)) := by
    go_simp
  unfold Oper.wp execOp
  simp only [ho, hx, hy, Instr.storeAt, Instr.sureAddr, Sem.run_bind, Sem.run_pure, Result.andThen_ok, hr]
  exact h
set_option maxRecDepth 100000 in
set_option maxHeartbeats 2000000 in
theorem head_agg (r : TRu) (A : Option Addr) (c : Nat) (B : Option Addr) (d : Nat) (W : World) (hr : rightAm r.head = true) (ha : 1 ≤ r.agg ∧ r.agg ≤ 4) (j : Nat) (hj : r.col = (j : Int)) (t : TTm) (ht : r.head.args[j]? = some t) (hV : RuV W r A B) (hL : Lays W) (hT : StrTab W 2 aggsL) :
    Calls Tryz.prog 78 #[ruV r A c B d] W fun e W' => e = .returned (.string (bts (txHd r))) ∧ Below W.heap.size W W' := by
  obtain ⟨h1, h2, h3⟩ := rightAm_parts hr
  have hb : Below W.heap.size W (W.alloc (.cells #[.string r.head.rel, .slice A r.head.args.length c, .int .i64 r.agg, .int .i64 r.col, .slice B r.body.length d, .int .i64 r.pos] 52)) := (Below.refl _ _).alloc (Nat.le_refl _) _
  have HO : Hid (Own (W.alloc (.cells #[.string r.head.rel, .slice A r.head.args.length c, .int .i64 r.agg, .int .i64 r.col, .slice B r.body.length d, .int .i64 r.pos] 52)) W.heap.size 52 [.string r.head.rel, .slice A r.head.args.length c, .int .i64 r.agg, .int .i64 r.col, .slice B r.body.length d, .int .i64 r.pos]) := heap_alloc_new _ _
  have HB := Lib.hid hb
  have hal : r.head.args.length ≤ 100 := by omega
  have hrel : r.head.rel.size ≤ 100000 := by omega
  obtain ⟨xs, hxs⟩ : ∃ xs, xs = r.head.args.map txTm := ⟨_, rfl⟩
  have hxl : xs.length ≤ 6 := by rw [hxs, List.length_map]; exact h2
  have HE := Lib.hid (eachTm_any A c r.head.args _ hal (hV.am.pers (.of hb)).row (hL.below hb))
  rw [← hxs] at HE
  have htr := h3 t (List.mem_of_getElem? ht)
  obtain ⟨it, hit⟩ : ∃ it, it = aggW r.agg ++ ([40] ++ (txTm t ++ [41])) := ⟨_, rfl⟩
  have hitl : it.length ≤ 39 := by
    have a1 := rightTm_len htr
    have a2 := agg_len r.agg
    rw [hit]
    simp only [List.length_append, List.length_cons, List.length_nil]
    omega
  have hjn : j < xs.length := by
    rw [hxs, List.length_map]
    exact (List.getElem?_eq_some_iff.1 ht).1
  have hxj : xs[j]? = some (txTm t) := by rw [hxs, List.getElem?_map, ht]; rfl
  have hjj := join_le (b := 39) (L := xs.set j it) (fun u hu => by
    rcases List.mem_or_eq_of_mem_set hu with hu | hu
    · rw [hxs] at hu
      obtain ⟨y, hy, rfl⟩ := List.mem_map.1 hu
      have := rightTm_len (h3 y hy)
      omega
    · rw [hu]; exact hitl)
  have hjl : (Lib.join (xs.set j it) [44, 32]).length ≤ 100000 := by
    rw [List.length_set] at hjj
    have := Nat.mul_le_mul_right (39 + 2) hxl
    omega
  obtain ⟨z, hz⟩ : ∃ z, z = bts (txHd r) := ⟨_, rfl⟩
  have CL : Hid (∀ g W, Own W g 9 ((xs.set j it).map fun x => .string (bts x)) → Calls Tryz.prog 104 #[.string r.head.rel, .slice (some ⟨g, 0, none⟩) xs.length xs.length] W fun e w' => e = .returned (.string z) ∧ Below W.heap.size W w') := fun g W ho => by
    rw [hz]
    unfold txHd
    rw [hj, items_agg _ _ _ t (by omega) ht, ← hxs, ← hit]
    have h9 := list_anyS r.head.rel g (xs.set j it) W ho hrel (by rw [List.length_set]; omega) hjl
    rw [List.length_set] at h9
    exact h9
  have mixed : Tryz.prog.follows .mixedOrders = true := by kernel_rfl
  obtain ⟨q, hq, hq5, hq0, hqs⟩ := agg_cases ha
  have CI : Hid (∀ g W, Own W g 9 [.string (bts (txTm t))] → Calls Tryz.prog 104 #[.string (bts (aggW r.agg)), .slice (some ⟨g, 0, none⟩) 1 1] W fun e w' => e = .returned (.string (bts it)) ∧ Below W.heap.size W w') := fun g W ho => by
    have h9 := list_anyS (bts (aggW r.agg)) g [txTm t] W ho (by rw [bts_size]; have := agg_len r.agg; omega) (by simp) (by rw [Lib.join_one]; have := rightTm_len htr; omega)
    rw [Lib.join_one, bts_list, ← hit] at h9
    exact h9
  have hq1 := (hb.cell (p := ⟨_, _, none⟩) hT.1).trans (hT.2 q _ hqs)
  have hgl : 2 < W.heap.size := hT.1
  have hqn : ¬ ((q : Int) = 0) := by omega
  unfold ruV
  rw [← hz]
  have HXJ := Lib.hid hxj
  generalize aggW r.agg = aw at *
  generalize txTm t = tt at *
  generalize r.agg = ag at *
  generalize r.col = co at *
  subst hq hj
  clear hb hV hL hr h1 h2 h3 hjj hjl hal hxs hrel hz hT htr ht hit hitl hxj hqs ha hxl
  go_enter Tryz.func78, Tryz.ntmps78
  go_wp2_with fail
  refine HE.out.mono ?_
  rintro e W2 ⟨g, rfl, hg, ho, b2⟩
  have HO2 := Lib.hid (HO.out.below b2)
  have HB2 := Lib.hid (HB.out.trans (b2.mono HB.out.size))
  have HI2 := Lib.hid ho
  have e0 := HO2.out.cell 0
  have e2 := HO2.out.cell 2
  have e3 := HO2.out.cell 3
  have el := HO2.out.lt
  simp only [List.getElem?_cons_zero, List.getElem?_cons_succ] at e0 e2 e3
  have ag0 := (b2.cell (p := ⟨_, _, none⟩) (Nat.lt_of_lt_of_le hgl HB.out.size)).trans hq1
  have agl : 2 < W2.heap.size := Nat.lt_of_lt_of_le hgl HB2.out.size
  have i0 := HI2.out.cell j
  rw [List.getElem?_map, HXJ.out, Option.map_some] at i0
  have il := HI2.out.lt
  have hgb : g ≠ W.heap.size := by have := HB.out.size; simp at hg; omega
  have hg2 : W.heap.size ≤ g := by simp at hg; omega
  clear ho b2 HE HO HB hq1 hg
  go_wp2_with fail
  obtain ⟨b, hbb⟩ : ∃ b, b = W.heap.size := ⟨_, rfl⟩
  rw [← hbb] at HO2 e0 e2 e3 el hgb hg2
  have HBB := Lib.hid hbb
  repeat rw [show (Value.pointer (some ⟨W.heap.size, 0, none⟩)) = .pointer (some ⟨b, 0, none⟩) by rw [HBB.out]]
  clear hbb
  have hbg : b ≠ g := fun e => hgb e.symm
  have hgg : 2 ≠ g := by have := hgl; have := HBB.out; omega
  rename_i K1 hK1 hq9
  refine wp_region_inv' (n := 16) (J := fun a0 => HJ W2 g j (bts it) (bts tt) (hdVal b g j q xs.length aw tt it) a0) mixed rfl ?hac ?hg ?h0 ?hstep ?hend
  case hac => exact ac_of' (by kernel_rfl)
  case hg => exact guard_of (by kernel_rfl)
  case h0 => exact HJ.start rfl (Below.refl _ _).drew
  case hstep =>
    intro i oo dd a w2 hi ho hdi hdep hJ K hK
    match i, hi with
    | 0, _ =>
      simp only [List.getElem?_toArray, List.getElem?_cons_zero, List.getElem?_cons_succ, Option.some.injEq] at ho
      subst ho
      have h1 : a.tmps.getD 3 undef = .slice (some ⟨g, 0, none⟩) xs.length xs.length := (hJ.fr 3 (by decide)).trans rfl
      refine mk_val (v := .slice (some ⟨g, 0, none⟩) xs.length xs.length) (w' := w2) ?_ (hK _ _ (hJ.read (i := 0) (by omega) (by omega) rfl))
      simp only [execOp, Act.eval, h1]
      try rfl
    | 1, _ =>
      simp only [List.getElem?_toArray, List.getElem?_cons_zero, List.getElem?_cons_succ, Option.some.injEq] at ho
      subst ho
      have h1 : a.tmps.getD 1 undef = .pointer (some ⟨b, 0, none⟩) := (hJ.fr 1 (by decide)).trans rfl
      refine mk_val (v := .pointer (some ⟨b, 3, none⟩)) (w' := w2) ?_ (hK _ _ (hJ.read (i := 1) (by omega) (by omega) rfl))
      simp only [execOp, Act.eval, h1]
      kernel_rfl
    | 2, _ =>
      simp only [List.getElem?_toArray, List.getElem?_cons_zero, List.getElem?_cons_succ, Option.some.injEq] at ho
      subst ho
      have h1 : a.tmps.getD 12 undef = .pointer (some ⟨b, 3, none⟩) := hJ.got 1 (by omega) (by omega) (hdep ⟨1, .data⟩ (by simp) rfl)
      refine mk_val (v := .int .i64 (j : Int)) (w' := w2) ?_ (hK _ _ (hJ.read (i := 2) (by omega) (by omega) rfl))
      simp only [execOp, Act.eval, h1, Instr.loadAt, Instr.sureAddr, Sem.run_bind, Sem.run_pure, Result.andThen_ok]
      rw [load_one w2 b 3 3 (.int .i64 (j : Int)) _ (hJ.cell hbg (e3)) Tryz.underlying3 rfl]
      rfl
    | 3, _ =>
      simp only [List.getElem?_toArray, List.getElem?_cons_zero, List.getElem?_cons_succ, Option.some.injEq] at ho
      subst ho
      have h1 : a.tmps.getD 1 undef = .pointer (some ⟨b, 0, none⟩) := (hJ.fr 1 (by decide)).trans rfl
      refine mk_val (v := .pointer (some ⟨b, 2, none⟩)) (w' := w2) ?_ (hK _ _ (hJ.read (i := 3) (by omega) (by omega) rfl))
      simp only [execOp, Act.eval, h1]
      kernel_rfl
    | 4, _ =>
      simp only [List.getElem?_toArray, List.getElem?_cons_zero, List.getElem?_cons_succ, Option.some.injEq] at ho
      subst ho
      have h1 : a.tmps.getD 14 undef = .pointer (some ⟨b, 2, none⟩) := hJ.got 3 (by omega) (by omega) (hdep ⟨3, .data⟩ (by simp) rfl)
      refine mk_val (v := .int .i64 (q : Int)) (w' := w2) ?_ (hK _ _ (hJ.read (i := 4) (by omega) (by omega) rfl))
      simp only [execOp, Act.eval, h1, Instr.loadAt, Instr.sureAddr, Sem.run_bind, Sem.run_pure, Result.andThen_ok]
      rw [load_one w2 b 2 3 (.int .i64 (q : Int)) _ (hJ.cell hbg (e2)) Tryz.underlying3 rfl]
      rfl
    | 5, _ =>
      simp only [List.getElem?_toArray, List.getElem?_cons_zero, List.getElem?_cons_succ, Option.some.injEq] at ho
      subst ho
      have h1 : a.tmps.getD 15 undef = .int .i64 (q : Int) := hJ.got 4 (by omega) (by omega) (hdep ⟨4, .data⟩ (by simp) rfl)
      refine mk_val (v := .pointer (some ⟨2, q, none⟩)) (w' := w2) ?_ (hK _ _ (hJ.read (i := 5) (by omega) (by omega) rfl))
      simp only [execOp, Act.eval, h1, Sem.run_bind, Sem.run_pure, ixAgg q w2 hq5, Result.andThen_ok]
      try rfl
    | 6, _ =>
      simp only [List.getElem?_toArray, List.getElem?_cons_zero, List.getElem?_cons_succ, Option.some.injEq] at ho
      subst ho
      have h1 : a.tmps.getD 16 undef = .pointer (some ⟨2, q, none⟩) := hJ.got 5 (by omega) (by omega) (hdep ⟨5, .data⟩ (by simp) rfl)
      refine mk_val (v := .string (bts aw)) (w' := w2) ?_ (hK _ _ (hJ.read (i := 6) (by omega) (by omega) rfl))
      simp only [execOp, Act.eval, h1, Instr.loadAt, Instr.sureAddr, Sem.run_bind, Sem.run_pure, Result.andThen_ok]
      rw [load_one w2 2 q 9 (.string (bts aw)) _ (hJ.cell hgg ag0) Tryz.underlying9 rfl]
      rfl
    | 7, _ =>
      simp only [List.getElem?_toArray, List.getElem?_cons_zero, List.getElem?_cons_succ, Option.some.injEq] at ho
      subst ho
      have h1 : a.tmps.getD 3 undef = .slice (some ⟨g, 0, none⟩) xs.length xs.length := (hJ.fr 3 (by decide)).trans rfl
      refine mk_val (v := .slice (some ⟨g, 0, none⟩) xs.length xs.length) (w' := w2) ?_ (hK _ _ (hJ.read (i := 7) (by omega) (by omega) rfl))
      simp only [execOp, Act.eval, h1]
      try rfl
    | 8, _ =>
      simp only [List.getElem?_toArray, List.getElem?_cons_zero, List.getElem?_cons_succ, Option.some.injEq] at ho
      subst ho
      have h1 : a.tmps.getD 1 undef = .pointer (some ⟨b, 0, none⟩) := (hJ.fr 1 (by decide)).trans rfl
      refine mk_val (v := .pointer (some ⟨b, 3, none⟩)) (w' := w2) ?_ (hK _ _ (hJ.read (i := 8) (by omega) (by omega) rfl))
      simp only [execOp, Act.eval, h1]
      kernel_rfl
    | 9, _ =>
      simp only [List.getElem?_toArray, List.getElem?_cons_zero, List.getElem?_cons_succ, Option.some.injEq] at ho
      subst ho
      have h1 : a.tmps.getD 19 undef = .pointer (some ⟨b, 3, none⟩) := hJ.got 8 (by omega) (by omega) (hdep ⟨8, .data⟩ (by simp) rfl)
      refine mk_val (v := .int .i64 (j : Int)) (w' := w2) ?_ (hK _ _ (hJ.read (i := 9) (by omega) (by omega) rfl))
      simp only [execOp, Act.eval, h1, Instr.loadAt, Instr.sureAddr, Sem.run_bind, Sem.run_pure, Result.andThen_ok]
      rw [load_one w2 b 3 3 (.int .i64 (j : Int)) _ (hJ.cell hbg (e3)) Tryz.underlying3 rfl]
      rfl
    | 10, _ =>
      simp only [List.getElem?_toArray, List.getElem?_cons_zero, List.getElem?_cons_succ, Option.some.injEq] at ho
      subst ho
      have h1 : a.tmps.getD 18 undef = .slice (some ⟨g, 0, none⟩) xs.length xs.length := hJ.got 7 (by omega) (by omega) (hdep ⟨7, .data⟩ (by simp) rfl)
      have h2 : a.tmps.getD 20 undef = .int .i64 (j : Int) := hJ.got 9 (by omega) (by omega) (hdep ⟨9, .data⟩ (by simp) rfl)
      refine mk_val (v := .pointer (some ⟨g, j, none⟩)) (w' := w2) ?_ (hK _ _ (hJ.read (i := 10) (by omega) (by omega) rfl))
      simp only [execOp, Act.eval, h1, h2, Sem.run_bind, Sem.run_pure, ixStr g j xs.length w2 hjn, Result.andThen_ok]
      try rfl
    | 11, _ =>
      simp only [List.getElem?_toArray, List.getElem?_cons_zero, List.getElem?_cons_succ, Option.some.injEq] at ho
      subst ho
      have h1 : a.tmps.getD 21 undef = .pointer (some ⟨g, j, none⟩) := hJ.got 10 (by omega) (by omega) (hdep ⟨10, .data⟩ (by simp) rfl)
      have hz := hJ.no15 (hJ.no13 (hJ.no12 hdi))
      refine mk_val (v := .string (bts tt)) (w' := w2) ?_ (hK _ _ (hJ.read (i := 11) (by omega) (by omega) rfl))
      simp only [execOp, Act.eval, h1, Instr.loadAt, Instr.sureAddr, Sem.run_bind, Sem.run_pure, Result.andThen_ok]
      rw [load_one w2 g j 9 (.string (bts tt)) _ ((hJ.low hz).cell (p := ⟨g, _, none⟩) il |>.trans i0) Tryz.underlying9 rfl]
      rfl
    | 12, _ =>
      simp only [List.getElem?_toArray, List.getElem?_cons_zero, List.getElem?_cons_succ, Option.some.injEq] at ho
      subst ho
      have h1 : a.tmps.getD 22 undef = .string (bts tt) := hJ.got 11 (by omega) (by omega) (hdep ⟨11, .data⟩ (by simp) rfl)
      have hz := hJ.no15 (hJ.no13 hdi)
      refine mk_val (v := .slice (some ⟨w2.heap.size, 0, none⟩) 1 1) (w' := w2.alloc (.cells #[.string (bts tt)] 9)) ?_ (hK _ _ (hJ.alloc hdi hz (hdep ⟨11, .data⟩ (by simp) rfl)))
      simp only [execOp, Act.eval, h1, List.map_toArray, List.map_cons, List.map_nil]
      kernel_rfl
    | 13, _ =>
      simp only [List.getElem?_toArray, List.getElem?_cons_zero, List.getElem?_cons_succ, Option.some.injEq] at ho
      subst ho
      have h1 : a.tmps.getD 17 undef = .string (bts aw) := hJ.got 6 (by omega) (by omega) (hdep ⟨6, .data⟩ (by simp) rfl)
      have hz := hJ.no15 hdi
      obtain ⟨b9, h2, hb9, ho9⟩ := hJ.box (hdep ⟨12, .data⟩ (by simp) rfl)
      refine mk_call (f := 104) (args := #[.string (bts aw), .slice (some ⟨b9, 0, none⟩) 1 1]) (by simp only [execOp, resolve, Act.eval, List.map_toArray, List.map_cons, List.map_nil, h1, h2]; kernel_rfl) ((CI.out b9 w2 (ho9 hz)).mono ?_)
      rintro e w' ⟨rfl, hb'⟩
      exact ⟨_, rfl, hK _ _ (hJ.call hdi hz hb' (hdep ⟨12, .data⟩ (by simp) rfl))⟩
    | 14, _ =>
      simp only [List.getElem?_toArray, List.getElem?_cons_zero, List.getElem?_cons_succ, Option.some.injEq] at ho
      subst ho
      have h1 : a.tmps.getD 11 undef = .slice (some ⟨g, 0, none⟩) xs.length xs.length := hJ.got 0 (by omega) (by omega) (hdep ⟨0, .data⟩ (by simp) rfl)
      have h2 : a.tmps.getD 13 undef = .int .i64 (j : Int) := hJ.got 2 (by omega) (by omega) (hdep ⟨2, .data⟩ (by simp) rfl)
      refine mk_val (v := .pointer (some ⟨g, j, none⟩)) (w' := w2) ?_ (hK _ _ (hJ.read (i := 14) (by omega) (by omega) rfl))
      simp only [execOp, Act.eval, h1, h2, Sem.run_bind, Sem.run_pure, ixStr g j xs.length w2 hjn, Result.andThen_ok]
      try rfl
    | 15, _ =>
      simp only [List.getElem?_toArray, List.getElem?_cons_zero, List.getElem?_cons_succ, Option.some.injEq] at ho
      subst ho
      have hd13 : dd 13 = true := by first | exact hdep ⟨13, .data⟩ (by simp) rfl | exact hdep ⟨13, .phase⟩ (by simp) rfl | exact hdep ⟨13, .chain⟩ (by simp) rfl
      have hd14 : dd 14 = true := by first | exact hdep ⟨14, .data⟩ (by simp) rfl | exact hdep ⟨14, .phase⟩ (by simp) rfl | exact hdep ⟨14, .chain⟩ (by simp) rfl
      have h1 : a.tmps.getD 24 undef = .string (bts it) := hJ.got 13 (by omega) (by omega) hd13
      have h2 : a.tmps.getD 25 undef = .pointer (some ⟨g, j, none⟩) := hJ.got 14 (by omega) (by omega) hd14
      have hI := HI2.out.below (hJ.low hdi)
      have s0 := hI.cell j
      rw [List.getElem?_map, HXJ.out, Option.map_some] at s0
      have s1 := hI.frozen j
      refine st_one (.tmp 25) (.tmp 24) rfl h2 h1 s0 s1 ?_
      exact hK _ _ (hJ.store hdi hd13)
    | n + 16, h => omega
  case hend =>
    intro dd a w2 hall hJ
    obtain ⟨w5, hw5, hw2⟩ := hJ.wld
    rw [if_pos (hall 15 (by omega))] at hw2
    subst hw2
    obtain ⟨b9, h23, _, _⟩ := hJ.box (hall 12 (by omega))
    have HI5 := Lib.hid ((HI2.out.below hw5).set j (.string (bts it)))
    have HB5 := Lib.hid (HB2.out.trans (hw5.mono HB2.out.size))
    have HO5 := Lib.hid ((HO2.out.below hw5))
    have hg : ∀ k, k < 15 → k ≠ 12 → a.tmps.getD (11 + k) undef = hdVal b g j q xs.length aw tt it k := fun k hk hk2 => hJ.got k hk hk2 (hall k (by omega))
    have hfr := hJ.fr
    have hdf := hJ.df
    have hsz : a.tmps.size = 31 := hJ.tm
    have hbe : Below W.heap.size W (w5.setCell ⟨g, j, none⟩ (.string (bts it))) := HB5.out.trans ((Below.refl _ _).setCell (p := ⟨g, j, none⟩) (by rw [← HBB.out]; exact hg2) _)
    have hoe : Own (w5.setCell ⟨g, j, none⟩ (.string (bts it))) b 52 [.string r.head.rel, .slice A r.head.args.length c, .int .i64 (q : Int), .int .i64 (j : Int), .slice B r.body.length d, .int .i64 r.pos] := (Below.heap_setCell _ _ _ _ (by show b ≠ g; exact hbg)).trans HO5.out
    have HBe := Lib.hid hbe
    have HOe := Lib.hid hoe
    have HIe : Hid (Own (w5.setCell ⟨g, j, none⟩ (.string (bts it))) g 9 ((xs.set j it).map fun x => .string (bts x))) := by
      show Own _ _ _ _
      rw [List.map_set]
      exact HI5.out
    generalize w5.setCell ⟨g, j, none⟩ (.string (bts it)) = W5 at *
    have HC := Lib.hid (CL.out g W5 HIe.out)
    have y0 := HOe.out.cell 0
    have yl := HOe.out.lt
    simp only [List.getElem?_cons_zero] at y0
    refine hK1 _ _ ?_
    clear hK1 hJ hall hbe hoe HI5 HB5 HO5 hw5 HI2 HO2 HB2 e0 e2 e3 el ag0 agl i0 il CL CI
    obtain ⟨⟨l⟩, df⟩ := a
    simp only at hdf hsz hfr hg h23 ⊢
    subst hdf
    change l.length = 31 at hsz
    obtain ⟨t0, l0, rfl, hz0⟩ := cons_of hsz
    obtain ⟨t1, l1, rfl, hz1⟩ := cons_of hz0
    obtain ⟨t2, l2, rfl, hz2⟩ := cons_of hz1
    obtain ⟨t3, l3, rfl, hz3⟩ := cons_of hz2
    obtain ⟨t4, l4, rfl, hz4⟩ := cons_of hz3
    obtain ⟨t5, l5, rfl, hz5⟩ := cons_of hz4
    obtain ⟨t6, l6, rfl, hz6⟩ := cons_of hz5
    obtain ⟨t7, l7, rfl, hz7⟩ := cons_of hz6
    obtain ⟨t8, l8, rfl, hz8⟩ := cons_of hz7
    obtain ⟨t9, l9, rfl, hz9⟩ := cons_of hz8
    obtain ⟨t10, l10, rfl, hz10⟩ := cons_of hz9
    obtain ⟨t11, l11, rfl, hz11⟩ := cons_of hz10
    obtain ⟨t12, l12, rfl, hz12⟩ := cons_of hz11
    obtain ⟨t13, l13, rfl, hz13⟩ := cons_of hz12
    obtain ⟨t14, l14, rfl, hz14⟩ := cons_of hz13
    obtain ⟨t15, l15, rfl, hz15⟩ := cons_of hz14
    obtain ⟨t16, l16, rfl, hz16⟩ := cons_of hz15
    obtain ⟨t17, l17, rfl, hz17⟩ := cons_of hz16
    obtain ⟨t18, l18, rfl, hz18⟩ := cons_of hz17
    obtain ⟨t19, l19, rfl, hz19⟩ := cons_of hz18
    obtain ⟨t20, l20, rfl, hz20⟩ := cons_of hz19
    obtain ⟨t21, l21, rfl, hz21⟩ := cons_of hz20
    obtain ⟨t22, l22, rfl, hz22⟩ := cons_of hz21
    obtain ⟨t23, l23, rfl, hz23⟩ := cons_of hz22
    obtain ⟨t24, l24, rfl, hz24⟩ := cons_of hz23
    obtain ⟨t25, l25, rfl, hz25⟩ := cons_of hz24
    obtain ⟨t26, l26, rfl, hz26⟩ := cons_of hz25
    obtain ⟨t27, l27, rfl, hz27⟩ := cons_of hz26
    obtain ⟨t28, l28, rfl, hz28⟩ := cons_of hz27
    obtain ⟨t29, l29, rfl, hz29⟩ := cons_of hz28
    obtain ⟨t30, l30, rfl, hz30⟩ := cons_of hz29
    obtain rfl : l30 = [] := List.eq_nil_of_length_eq_zero hz30
    clear hsz hz0 hz1 hz2 hz3 hz4 hz5 hz6 hz7 hz8 hz9 hz10 hz11 hz12 hz13 hz14 hz15 hz16 hz17 hz18 hz19 hz20 hz21 hz22 hz23 hz24 hz25 hz26 hz27 hz28 hz29 hz30
    have f0 := hfr 0 (by decide)
    change t0 = _ at f0
    subst f0
    have f1 := hfr 1 (by decide)
    change t1 = _ at f1
    subst f1
    have f2 := hfr 2 (by decide)
    change t2 = _ at f2
    subst f2
    have f3 := hfr 3 (by decide)
    change t3 = _ at f3
    subst f3
    have f4 := hfr 4 (by decide)
    change t4 = _ at f4
    subst f4
    have f5 := hfr 5 (by decide)
    change t5 = _ at f5
    subst f5
    have f6 := hfr 6 (by decide)
    change t6 = _ at f6
    subst f6
    have f7 := hfr 7 (by decide)
    change t7 = _ at f7
    subst f7
    have f8 := hfr 8 (by decide)
    change t8 = _ at f8
    subst f8
    have f9 := hfr 9 (by decide)
    change t9 = _ at f9
    subst f9
    have f10 := hfr 10 (by decide)
    change t10 = _ at f10
    subst f10
    have f11 := hg 0 (by omega) (by omega)
    change t11 = _ at f11
    subst f11
    have f12 := hg 1 (by omega) (by omega)
    change t12 = _ at f12
    subst f12
    have f13 := hg 2 (by omega) (by omega)
    change t13 = _ at f13
    subst f13
    have f14 := hg 3 (by omega) (by omega)
    change t14 = _ at f14
    subst f14
    have f15 := hg 4 (by omega) (by omega)
    change t15 = _ at f15
    subst f15
    have f16 := hg 5 (by omega) (by omega)
    change t16 = _ at f16
    subst f16
    have f17 := hg 6 (by omega) (by omega)
    change t17 = _ at f17
    subst f17
    have f18 := hg 7 (by omega) (by omega)
    change t18 = _ at f18
    subst f18
    have f19 := hg 8 (by omega) (by omega)
    change t19 = _ at f19
    subst f19
    have f20 := hg 9 (by omega) (by omega)
    change t20 = _ at f20
    subst f20
    have f21 := hg 10 (by omega) (by omega)
    change t21 = _ at f21
    subst f21
    have f22 := hg 11 (by omega) (by omega)
    change t22 = _ at f22
    subst f22
    have f23 : t23 = .slice (some ⟨b9, 0, none⟩) 1 1 := h23
    subst f23
    have f24 := hg 13 (by omega) (by omega)
    change t24 = _ at f24
    subst f24
    have f25 := hg 14 (by omega) (by omega)
    change t25 = _ at f25
    subst f25
    have f26 := hfr 26 (by decide)
    change t26 = _ at f26
    subst f26
    have f27 := hfr 27 (by decide)
    change t27 = _ at f27
    subst f27
    have f28 := hfr 28 (by decide)
    change t28 = _ at f28
    subst f28
    have f29 := hfr 29 (by decide)
    change t29 = _ at f29
    subst f29
    have f30 := hfr 30 (by decide)
    change t30 = _ at f30
    subst f30
    clear hfr hg h23
    go_outline
    go_wp2_with fail
    refine HC.out.mono ?_
    rintro e W6 ⟨rfl, b6⟩
    have HF := Lib.hid (HBe.out.trans (b6.mono HBe.out.size))
    clear b6 HC y0 yl
    go_wp2
    go_ret
    exact ⟨rfl, HF.out⟩
theorem head_anyS (r : TRu) (A : Option Addr) (c : Nat) (B : Option Addr) (d : Nat) (W : World) (hr : rightRu r = true) (hV : RuV W r A B) (hL : Lays W) (hT : StrTab W 2 aggsL) :
    Calls Tryz.prog 78 #[ruV r A c B d] W fun e W' => e = .returned (.string (bts (txHd r))) ∧ Below W.heap.size W W' := by
  obtain ⟨h1, h2, _, _⟩ := rightRu_parts hr
  unfold aggB at h2
  split at h2
  · rename_i h0
    exact head_plain r A c B d W h1 h0.1 hV hL
  · simp only [Bool.and_eq_true, decide_eq_true_eq] at h2
    obtain ⟨ha, h2⟩ := h2
    split at h2
    · rename_i t ht
      simp only [Bool.and_eq_true, decide_eq_true_eq] at h2
      exact head_agg r A c B d W h1 ha r.col.toNat (by omega) t ht hV hL hT
    · cases h2
end Go.Proofs.YtikohamfnnlhcaaGreatDoor
