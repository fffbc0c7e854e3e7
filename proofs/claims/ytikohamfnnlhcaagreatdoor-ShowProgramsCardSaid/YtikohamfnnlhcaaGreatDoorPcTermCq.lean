/- The law's copies of an atom, a literal, a rule and a program in the document's form. Conditions: sizes of at most 30,000. -/
import Derived.Test.YtikohamfnnlhcaaGreatDoorScM
set_option linter.unusedVariables false
set_option linter.unusedSimpArgs false
namespace Go.Proofs.YtikohamfnnlhcaaGreatDoor
open Go.RowKit Go.Deep Go.Shelf

theorem wpList_append_run {P : Program} {ops : Array Oper} {rest : List Oper} {o : Oper} {a : Act} {w : World} {Q : Exit → Act → World → Prop}
    (hg : o.guard = none) (s x : Operand) (t : TypeId) (hop : o.op = Op.call { callee := Callee.builtin Builtin.append, args := #[s, x], argTypes := #[t, t] }) (hty : o.type = t)
    (vs vx : Value) (hs : a.eval s = vs) (hx : a.eval x = vx) {v' : Value} {w' : World} (hrun : (Builtin.append_ #[t, t] t #[vs, vx]).run P w = .ok v' w') (hK : wpList P ops Q rest (a.put o.dst v') w') : wpList P ops Q (o :: rest) a w :=
  wpList_plain hg fun K hK' => by
    unfold Oper.wp
    simp [execOp, hop, hty, resolve, invoke, builtin, hs, hx, hrun, Result.andThen]
    exact hK' _ _ hK
/-- a round's state: the copy so far, in a box of its own. -/
structure CpI {α : Type} (K : Nat) (E T : TypeId) (F : World → List Value → α → Prop) (n0 bs : Nat) (w : World) (b2 b3 : Nat) (zs cells : List Value) (vv : Value) (xs : List α) (css : List (List Value)) (W : World) : Prop where
  own : Own W b3 T cells
  res : Own W b2 T zs
  row : GR K E F n0 bs vv xs css W
  old : n0 ≤ w.heap.size
  lb : b3 < bs
  sz : bs ≤ W.heap.size
  bel : Below w.heap.size w W
  lo : w.heap.size ≤ b2
  lt : b2 < b3
section
variable {α : Type} {K : Nat} {E T : TypeId} {F : World → List Value → α → Prop} {n0 bs : Nat} {w : World} {b2 b3 : Nat} {zs cells : List Value} {vv : Value} {xs : List α} {css : List (List Value)} {W W' : World}
theorem CpI.below (h : CpI K E T F n0 bs w b2 b3 zs cells vv xs css W) (hb : Below W.heap.size W W') : CpI K E T F n0 bs w b2 b3 zs cells vv xs css W' :=
  ⟨h.own.below hb, h.res.below hb, h.row.below hb, h.old, h.lb, Nat.le_trans h.sz hb.size, h.bel.trans (hb.mono h.bel.size), h.lo, h.lt⟩
theorem CpI.step {v' : Value} {xs' : List α} {css' : List (List Value)} (h : CpI K E T F n0 bs w b2 b3 zs cells vv xs css W) (hr : GR K E F n0 bs v' xs' css' W') (hg : W.grownBy W' vv.ownBlock) (i : Nat) :
    CpI K E T F n0 bs w b2 b3 zs (cells.set i v') v' xs' css' (W'.setCell ⟨b3, i, none⟩ v') ∧ ∀ k, k < bs → k ≠ b3 → (W'.setCell ⟨b3, i, none⟩ v').heap[k]? = W.heap[k]? := by
  have hown : ∀ k, vv.ownBlock = some k → bs ≤ k ∧ k < W.heap.size := h.row.lt
  have k5 : Kept vv.ownBlock.toList W W' := Kept.grown hg (fun k hk => by rw [hk]; simp)
  have hlt := h.lt
  have hlo := h.lo
  have hlb := h.lb
  have hsz := h.sz
  have hn : ∀ k, k < bs → k ∉ vv.ownBlock.toList := fun k hk hm => by
    have := (hown k (by simpa using hm)).1
    omega
  have s3 : Kept [b3] W' (W'.setCell ⟨b3, i, none⟩ v') := (Kept.refl [b3] W').setCell (.inl (by simp)) _
  refine ⟨⟨(k5.own h.own (hn b3 hlb)).set i v', s3.own (k5.own h.res (hn b2 (by omega))) (by simp only [List.mem_singleton]; omega), hr.kept s3 (fun k hk => by simp only [List.mem_singleton] at hk; have := h.old; omega), h.old, hlb, ?_, ?_, hlo, hlt⟩, fun k hk hk3 => ?_⟩
  · have := k5.size
    have := s3.size
    omega
  · have hsw := h.bel.size
    exact h.bel.trans ((k5.below (B := w.heap.size) hsw (fun k hk => by have := (hown k (by simpa using hk)).1; omega)).trans (s3.below (B := w.heap.size) (by have := k5.size; omega) (fun k hk => by simp only [List.mem_singleton] at hk; omega)))
  · exact (s3.block k (by have := k5.size; omega) (by simpa using hk3)).trans (k5.block k (by omega) (hn k hk))
/-- one append, by its run. -/
theorem CpI.app {P : Program} {S : TypeId} (h : CpI K E T F n0 bs w b2 b3 zs cells vv xs css W) (hu : P.underlying S = some (.slice E)) {z : Value} {bytes : Nat} (hi : (P.info? E).map (fun i => (i.zero, i.size, i.bytes)) = some (some z, K, bytes)) (hzs : z.cells.size = K) (hK : 0 < K)
    (x : α) (cs : List Value) (hcl : cs.length = K) (h1 : ∀ u ∈ cs, u.oneCell' = true) {b : Nat} {T' : TypeId} (hO : Own W b T' cs) (hx : Stab W (fun k => (k < n0 ∨ bs ≤ k) ∧ some k ≠ vv.ownBlock) (fun W => F W cs x))
    (hlen : xs.length ≤ 100000) (hby : bytes ≤ 1000) :
    ∃ A c W', (Builtin.append_ #[S, S] S #[vv, .slice (some ⟨b, 0, none⟩) 1 1]).run P W = .ok (.slice A (xs.length + 1) c) W' ∧ (∀ k, k < W.heap.size → some k ≠ vv.ownBlock → W'.heap[k]? = W.heap[k]?) ∧ W.heap.size ≤ W'.heap.size ∧
      ∀ i, CpI K E T F n0 bs w b2 b3 zs (cells.set i (.slice A (xs.length + 1) c)) (.slice A (xs.length + 1) c) (xs ++ [x]) (css ++ [cs]) (W'.setCell ⟨b3, i, none⟩ (.slice A (xs.length + 1) c)) ∧
        ∀ k, k < bs → k ≠ b3 → (W'.setCell ⟨b3, i, none⟩ (.slice A (xs.length + 1) c)).heap[k]? = W.heap[k]? := by
  obtain ⟨v', W', g1, g2, g3, _⟩ := h.row.app hu hi hzs hK x cs hcl h1 hO hx hlen hby h.sz
  obtain ⟨A, c, hv⟩ := g2.val
  rw [List.length_append, List.length_singleton] at hv
  subst hv
  exact ⟨A, c, W', g1, g3.block, g3.size, fun i => h.step g2 g3 i⟩
theorem CpI.boxOff (h : CpI K E T F n0 bs w b2 b3 zs cells vv xs css W) : some b3 ≠ vv.ownBlock := fun e => by have := (h.row.lt b3 e.symm).1; have := h.lb; omega
/-- the end: the box copied into the result. -/
theorem CpI.done {Q : World → Nat → Nat → α → Prop} {A : Option Addr} {c : Nat} (h : CpI K E T F n0 bs w b2 b3 zs cells (.slice A xs.length c) xs css W)
    (hQ : ∀ (W : World) b o x cs, cs.length = K → (∀ (j : Nat) u, cs[j]? = some u → W.cell? ⟨b, o + j, none⟩ = some u) → F W cs x → Q W b o x) (hl : xs.length ≤ 140737488351232) (hk : Kept [b2] W W') :
    Stab W' (fun k => k < n0 ∨ bs ≤ k) (fun W => Rg K Q W A xs) ∧ Below w.heap.size w W' := by
  have hlo := h.lo
  have hlt := h.lt
  have hold := h.old
  have hlb := h.lb
  exact ⟨(h.row.rg rfl hQ hl).keep hk.size (fun k hkw hp => hk.block k hkw (by simp only [List.mem_singleton]; omega)) (fun _ _ h => h), h.bel.trans (hk.below h.bel.size (fun k hk => by simp only [List.mem_singleton] at hk; omega))⟩
end
theorem take_snoc' {α : Type} {l : List α} {j : Nat} (h : j < l.length) : l.take j ++ [l[j]] = l.take (j + 1) := (List.take_succ_eq_append_getElem h).symm
/-- an atom's value depends on its row's block alone. -/
theorem am_stab {W : World} {a : TAm} {A : Option Addr} {P : Nat → Prop} (h : AmV W a A) (hA : ∀ ad, A = some ad → P ad.block) : Stab W P (fun W => AmV W a A) := fun w' hs hk =>
  ⟨h.ok, h.row.1, fun h0 => by
    obtain ⟨b, o, h1, h2, h3⟩ := h.row.2 h0
    have hb := hk b h2 (hA _ h1)
    refine ⟨b, o, h1, Nat.lt_of_lt_of_le h2 hs, fun i y hy => ?_⟩
    obtain ⟨c0, c1, c2, c3, hok⟩ := h3 i y hy
    exact ⟨(World.cell?_of_block (w := W) hb).trans c0, (World.cell?_of_block (w := W) hb).trans c1, (World.cell?_of_block (w := W) hb).trans c2, (World.cell?_of_block (w := W) hb).trans c3, hok⟩⟩
/-- what an atom's copy comes to: in memory of its own. -/
def GotA (w : World) (a : TAm) (r : Ending) (w' : World) : Prop := ∃ A c, r = .returned (amV a A c) ∧ AmV w' a A ∧ (∀ ad, A = some ad → w.heap.size ≤ ad.block) ∧ Below w.heap.size w w'
theorem infoRam : (Tryz.prog.info? 67).map (·.size) = some 2 := by kernel_rfl
set_option maxRecDepth 100000 in
set_option maxHeartbeats 1000000 in
theorem Atom_copy (a : TAm) (A : Option Addr) (c : Nat) (w : World) (hsz : a.args.length ≤ 30000) (hV : AmV w a A) : Calls Tryz.prog 45 #[amV a A c] w (GotA w a) := by
  have HV := Lib.hid hV
  have hlen := hV.row.1
  have hrel := hV.ok
  have HX0 : Hid (CpI 4 72 67 FTm 0 (w.heap.size + 1 + 1 + 1) w (w.heap.size + 1) (w.heap.size + 1 + 1) [.string noText, .slice none 0 0] [.string a.rel, .slice none 0 0] (.slice none 0 0) (a.args.take 0) []
      (((w.alloc (.cells #[.string a.rel, .slice A a.args.length c] 49)).alloc (.cells #[.string ⟨#[]⟩, .slice none 0 0] 67)).alloc (.cells #[.string a.rel, .slice none 0 0] 67))) := by
    have o2 := heap_alloc_new (w.alloc (.cells #[.string a.rel, .slice A a.args.length c] 49)) (.cells #[.string ⟨#[]⟩, .slice none 0 0] 67)
    have o3 := heap_alloc_new ((w.alloc (.cells #[.string a.rel, .slice A a.args.length c] 49)).alloc (.cells #[.string ⟨#[]⟩, .slice none 0 0] 67)) (.cells #[.string a.rel, .slice none 0 0] 67)
    simp only [World.size_alloc] at o2 o3
    have o2' : Own ((w.alloc (.cells #[.string a.rel, .slice A a.args.length c] 49)).alloc (.cells #[.string ⟨#[]⟩, .slice none 0 0] 67)) (w.heap.size + 1) 67 [.string noText, .slice none 0 0] := o2
    exact ⟨o3, o2'.alloc _, GR.nil _, Nat.zero_le _, Nat.lt_succ_self _, by simp, (((Below.refl _ _).alloc (Nat.le_refl _) _).alloc (by simp) _).alloc (by simp; omega) _, Nat.le_succ _, Nat.lt_succ_self _⟩
  obtain ⟨W, hW⟩ : ∃ W, W = (((w.alloc (.cells #[.string a.rel, .slice A a.args.length c] 49)).alloc (.cells #[.string ⟨#[]⟩, .slice none 0 0] 67)).alloc (.cells #[.string a.rel, .slice none 0 0] 67)) := ⟨_, rfl⟩
  obtain ⟨b2, hb2⟩ : ∃ b, b = w.heap.size + 1 := ⟨_, rfl⟩
  obtain ⟨b3, hb3⟩ : ∃ b, b = w.heap.size + 1 + 1 := ⟨_, rfl⟩
  rw [← hW, ← hb3, ← hb2] at HX0
  have HW := Lib.hid hW
  have HB2 := Lib.hid hb2
  have HB3 := Lib.hid hb3
  clear hW hb2 hb3 hV
  unfold amV
  go_enter Tryz.func45, Tryz.ntmps45
  go_wp2_with fail
  rw [← HW.out, ← HB3.out, ← HB2.out]
  go_loopw [12] (fun i wr => ∃ (j : Nat) (vv : Value) (css : List (List Value)), j ≤ a.args.length ∧ i = .int .i64 j ∧ Hid (CpI 4 72 67 FTm 0 (b3 + 1) w b2 b3 [.string noText, .slice none 0 0] [.string a.rel, vv] vv (a.args.take j) css wr)) (fun i _ => a.args.length - (intOf i).toNat)
  case atStart => exact ⟨0, _, _, Nat.zero_le _, rfl, HX0⟩
  case round =>
    obtain ⟨j, vv, css, hj, rfl, HX⟩ := hrel
    have x1 := HX.out.own.cell 1
    have xq := HX.out.own.lt
    simp only [List.getElem?_cons_zero, List.getElem?_cons_succ] at x1
    by_cases hlt : j < a.args.length
    · obtain ⟨b, o, rfl, hbw, hc⟩ := HV.out.row.at_ hlt
      obtain ⟨d0, d1, d2, d3, hok⟩ := hc.pers (Pers.of (HX.out.bel))
      have HT := Lib.hid (take_snoc' hlt)
      have hbx : Below wr.heap.size wr ((wr.alloc (.cells #[.string a.args[j].v, .int .i64 a.args[j].k, .int .i64 a.args[j].n, .string a.args[j].s] 58)).alloc (.cells #[.string a.args[j].v, .int .i64 a.args[j].k, .int .i64 a.args[j].n, .string a.args[j].s] 72)) := ((Below.refl _ _).alloc (Nat.le_refl _) _).alloc (by simp) _
      obtain ⟨A3, c3, w5, hrun, hblk, hsz5, hN⟩ := (HX.out.below hbx).app (P := Tryz.prog) (S := 65) Tryz.underlying65 infoRtm rfl (by decide) a.args[j] [.string a.args[j].v, .int .i64 a.args[j].k, .int .i64 a.args[j].n, .string a.args[j].s] rfl (by simp [Value.oneCell']) (heap_alloc_new _ _)
        (fun _ _ _ => ⟨rfl, hok⟩) (by rw [List.length_take]; omega) (by decide)
      have hlj : (a.args.take j).length = j := by rw [List.length_take]; omega
      rw [hlj] at hrun hN
      simp only [World.size_alloc] at hrun
      have HN := Lib.hid (hN 1).1
      have y5 := (hblk b3 (by have := hbx.size; omega) (by exact HX.out.boxOff)).trans (hbx.block b3 xq)
      have hq5 : b3 < w5.heap.size := by have := hbx.size; omega
      have y1 : w5.cell? ⟨b3, 1, none⟩ = some vv := (World.cell?_of_block (w := wr) y5).trans x1
      have yf : w5.frozen? ⟨b3, 1, none⟩ = false := by
        have h3 : Own w5 b3 67 [.string a.rel, vv] := y5.trans HX.out.own
        exact h3.frozen 1
      rw [HT.out] at HN
      clear hN hblk hbx hlj hok hc y5 HT
      generalize a.args[j] = y at *
      go_wp2_with (refine wpList_append_run (o := ⟨some 20, _, _, _, _, _⟩) rfl (.tmp 17) (.tmp 19) 65 rfl rfl _ _ rfl rfl hrun ?_)
      go_roundw
      case rel => exact ⟨j + 1, _, _, by omega, by go_num, HN⟩
      case measure => simp [intOf]; omega
    · have hjk : j = a.args.length := by omega
      obtain ⟨A3, c3, hv3⟩ := HX.out.row.val
      subst hv3
      subst hjk
      have hX := HX.out
      rw [List.take_length] at hX
      have HOo := Lib.hid hX.own
      have HRs := Lib.hid hX.res
      have hinf : (Tryz.prog.info? 67).map (·.size) = some 2 := infoRam
      have HXX := Lib.hid hX
      clear x1 hX HX
      go_wp2_with (first
        | (refine wpList_load_row (o := ⟨some 23, _, _, _, _, _⟩) rfl 67 _ rfl b3 rfl 67 #[.string a.rel, .slice A3 a.args.length c3] (0, 0) _ HOo.out Tryz.underlying67 rfl hinf ?_)
        | (refine wpList_store_row (o := ⟨none, .store 67 _ _, _, _, _, _⟩) rfl 67 _ _ rfl b2 #[.string a.rel, .slice A3 a.args.length c3] rfl rfl 67 _ HRs.out hinf rfl (by simp [Value.oneCell']) ?_))
      have hrow := setRow_heap wr b2 _ #[.string a.rel, .slice A3 a.args.length c3] _ _ HRs.out
      have hkr : Kept [b2] wr (wr.setRow b2 #[.string a.rel, .slice A3 a.args.length c3]) := ⟨rfl, rfl, rfl, by simp, fun k _ hn => setRow_other wr b2 k _ (by simpa using hn)⟩
      obtain ⟨q2, q3⟩ := HXX.out.done FTm.c hlen hkr
      refine bodyPost_ret (v := .agg #[.string a.rel, .slice A3 a.args.length c3]) (results_cell_row (P := Tryz.prog) rfl _ _ b2 67 _ (0, 0) _ rfl hrow Tryz.underlying67 rfl hinf) rfl ?_
      exact ⟨A3, c3, rfl, ⟨hrel, q2.here⟩, fun ad had => by have := (HXX.out.row.lt ad.block (by rw [had]; rfl)).1; have := HB3.out; omega, q3⟩
end Go.Proofs.YtikohamfnnlhcaaGreatDoor
