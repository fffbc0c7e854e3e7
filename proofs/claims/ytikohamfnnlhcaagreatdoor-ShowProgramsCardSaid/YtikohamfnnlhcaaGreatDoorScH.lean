/- The iterator over a program's lines. Conditions: a well-formed program; the tables as laid. A program's lines in a new slice; the iterator over a slice of texts; show.Lines. Conditions: a well-formed program; the tables as laid. The iterator over a slice of texts; show.Lines. Conditions: the tables as laid. -/
import Derived.Test.YtikohamfnnlhcaaGreatDoorPcShoJ
import Derived.Test.YtikohamfnnlhcaaGreatDoorScE
import Derived.Test.YtikohamfnnlhcaaGreatDoorScL
import Derived.Maps.OwnIn
import Derived.Maps.AppendAt
import Derived.Test.YtikohamfnnlhcaaGreatDoorPcTermL
set_option linter.unusedVariables false
set_option linter.unusedSimpArgs false
namespace Go.Proofs.YtikohamfnnlhcaaGreatDoor
open Go.RowKit Go.Deep Go.Shelf
attribute [local go_sem] Oper.semAt_some

/-- a line, as far as it is written. -/
def Lim (m : Int) (L : List UInt8) (x : ByteArray) : Prop := ((L.length : Int) ≤ m → x = bts L) ∧ (¬ (L.length : Int) ≤ m → m < (x.size : Int)) ∧ x.size ≤ L.length
theorem Lim.full (m : Int) (L : List UInt8) : Lim m L (bts L) := ⟨fun _ => rfl, fun h => by rw [bts_size]; omega, by rw [bts_size]; exact Nat.le_refl _⟩
/-- the first lines. -/
def LnP (m : Int) (Ls : List (List UInt8)) (xs : List ByteArray) : Prop := xs.length ≤ Ls.length ∧ ∀ (i : Nat) x L, xs[i]? = some x → Ls[i]? = some L → Lim m L x
theorem LnP.nil (m : Int) (Ls : List (List UInt8)) : LnP m Ls [] := ⟨Nat.zero_le _, fun i x L h => by simp at h⟩
theorem LnP.snoc {m : Int} {Ls : List (List UInt8)} {xs : List ByteArray} {L : List UInt8} {x : ByteArray} (h : LnP m Ls xs) (hL : Ls[xs.length]? = some L) (hx : Lim m L x) : LnP m Ls (xs ++ [x]) := by
  refine ⟨by have := (List.getElem?_eq_some_iff.1 hL).1; simp; omega, fun i y M hy hM => ?_⟩
  by_cases hi : i < xs.length
  · rw [List.getElem?_append_left hi] at hy
    exact h.2 i y M hy hM
  · have hlt := (List.getElem?_eq_some_iff.1 hy).1
    simp only [List.length_append, List.length_cons, List.length_nil] at hlt
    have e : i = xs.length := by omega
    subst e
    rw [List.getElem?_append_right (Nat.le_refl _), Nat.sub_self] at hy
    simp only [List.getElem?_cons_zero, Option.some.injEq] at hy
    subst hy
    rw [hL] at hM
    injection hM with hM
    subst hM
    exact hx
/-- what an iterator over a program's lines reads. -/
structure LnG (p : TPg) (A : Option Addr) (c : Nat) (B : Option Addr) (d : Nat) (m : Int) (bp bm : Nat) (X : World) : Prop where
  pg : PgV X p A B
  tab : Sht X
  kinds : StrTab X 3 kindsL
  p0 : X.cell? ⟨bp, 0, none⟩ = some (.slice A p.decls.length c)
  p1 : X.cell? ⟨bp, 1, none⟩ = some (.slice B p.rules.length d)
  most : X.cell? ⟨bm, 0, none⟩ = some (.int .i64 m)
theorem LnG.below {p : TPg} {A : Option Addr} {c : Nat} {B : Option Addr} {d : Nat} {m : Int} {bp bm : Nat} {X Y : World} (h : LnG p A c B d m bp bm X) (hb : Below X.heap.size X Y) : LnG p A c B d m bp bm Y :=
  ⟨h.pg.below hb, h.tab.below hb, h.kinds.below hb, (hb.cell (World.block_lt_of_cell? _ _ h.p0)).trans h.p0, (hb.cell (World.block_lt_of_cell? _ _ h.p1)).trans h.p1, (hb.cell (World.block_lt_of_cell? _ _ h.most)).trans h.most⟩
theorem linesX_decl {p : TPg} {k : Nat} (h : k < p.decls.length) : (linesX p)[k]? = some (txDe p.decls[k]) := by
  unfold linesX
  rw [List.getElem?_append_left (by rw [List.length_map]; exact h), List.getElem?_map, List.getElem?_eq_getElem h]
  rfl
theorem linesX_rule {p : TPg} {k n : Nat} (h : k < p.rules.length) (hn : n = p.decls.length + k) : (linesX p)[n]? = some (txRu p.rules[k]) := by
  unfold linesX
  rw [List.getElem?_append_right (by rw [List.length_map]; omega), List.length_map, List.getElem?_map, show n - p.decls.length = k by omega, List.getElem?_eq_getElem h]
  rfl
set_option maxRecDepth 100000 in
set_option maxHeartbeats 2000000 in
theorem lines_in (n : Nat) (hn : 1 ≤ n) (l : Nat) (p : TPg) (A : Option Addr) (c : Nat) (B : Option Addr) (d : Nat) (m : Int) (bp bm : Nat) (G : World → Prop) (Kp : World → World → Prop) (J Jx : List ByteArray → World → Prop) (W : World)
    (hf : formedB p = true) (hG : ∀ X, G X → LnG p A c B d m bp bm X) (hGb : ∀ X Y, G X → Below X.heap.size X Y → G Y) (hGk : ∀ X Y, G X → Kp X Y → G Y)
    (hJ : ∀ s X Y, J s X → Below X.heap.size X Y → J s Y) (hJx : ∀ s X Y, Jx s X → Below X.heap.size X Y → Jx s Y)
    (hY : ∀ pre x W1, J pre W1 → LnP m (linesX p) (pre ++ [x]) → YieldAt Fence.wide (n - 1) Tryz.prog l #[.string x] W1 fun e W' =>
      (e = .returned (.bool true) ∧ J (pre ++ [x]) W' ∧ Kp W1 W') ∨ (e = .returned (.bool false) ∧ Jx (pre ++ [x]) W'))
    (h0 : J [] W) (g0 : G W) :
    CallsIn Fence.wide n Tryz.prog 71 #[.func (.yield l) #[] #[], .pointer (some ⟨bp, 0, none⟩), .pointer (some ⟨bm, 0, none⟩)] W fun e W' => (∃ v, e = .returned v) ∧
      ((∃ xs, (LnP m (linesX p) xs ∧ xs.length = (linesX p).length) ∧ J xs W') ∨ (∃ pre, LnP m (linesX p) pre ∧ Jx pre W')) := by
  obtain ⟨hd32, hdr, hr64, hrr⟩ := formed_parts hf
  have HY := Lib.hid hY
  have HJ := Lib.hid hJ
  have HG := Lib.hid hG
  have HGb := Lib.hid hGb
  have HGk := Lib.hid hGk
  have H0 := Lib.hid h0
  have G0 := Lib.hid g0
  have HDr := Lib.hid hdr
  have HRr := Lib.hid hrr
  have HLd := Lib.hid (fun k h => linesX_decl (p := p) (k := k) h)
  have HLr := Lib.hid (fun k n h h' => linesX_rule (p := p) (k := k) (n := n) h h')
  have HLl := Lib.hid (linesX_len (p := p))
  have hl1 := (hG W g0).p0
  have hb1 := World.block_lt_of_cell? _ _ hl1
  clear hY hJ hJx hG hGb hGk h0 g0 hdr hrr hf
  generalize linesX p = LL at *
  have hff : Fence.wide.fn 71 := trivial
  have hfd : Fence.wide.fn 72 := trivial
  have hfr : Fence.wide.fn 48 := trivial
  refine callsIn_of_wp Tryz.func71 rfl hff ?_ rfl
  simp only [Tryz.ntmps71, List.size_toArray, List.length_cons, List.length_nil, Nat.reduceAdd, Nat.reduceSub, Array.replicate_succ, Array.replicate_zero, List.push_toArray, List.append_toArray, List.nil_append, List.cons_append]
  gi_wp2_with fail
  clear hl1 hb1
  gi_loopw [12] (fun ix wr => ∃ (j : Nat) (pre : List ByteArray), j ≤ p.decls.length ∧ ix = .int .i64 j ∧ Hid (pre.length = j) ∧ Hid (LnP m LL pre) ∧ Hid (J pre wr) ∧ Hid (G wr)) (fun ix _ => p.decls.length - (intOf ix).toNat)
  case atStart => exact ⟨0, [], Nat.zero_le _, rfl, Lib.hid rfl, Lib.hid (LnP.nil _ _), H0, G0⟩
  case round =>
    obtain ⟨j, pre, hj, rfl, HPl, HP, HJr, HGr⟩ := hrel
    by_cases hlt : j < p.decls.length
    · obtain ⟨g, o, rfl, hgw, c0, ⟨KA, kc, c1, hKr⟩, c2, hrl⟩ := (HG.out _ HGr.out).pg.decls.at_ hlt
      have hLd := HLd.out j hlt
      have hrd := HDr.out _ (List.getElem_mem hlt)
      have HKr := Lib.hid hKr
      have HRd := Lib.hid hrd
      have HLj : Hid (LL[pre.length]? = some (txDe p.decls[j])) := by show _ = _; rw [HPl.out]; exact hLd
      clear hLd hrd hKr hrl
      generalize p.decls[j] = de at *
      have hb3 : Below wr.heap.size wr (wr.alloc (.cells #[.string de.rel, .slice KA de.kinds.length kc, .int .i64 de.pos] 100)) := (Below.refl _ _).alloc (Nat.le_refl _) _
      have HB3 := Lib.hid hb3
      have HC := Lib.hid (decl_any de KA kc (wr.alloc (.cells #[.string de.rel, .slice KA de.kinds.length kc, .int .i64 de.pos] 100)) HRd.out (HKr.out.int (.of hb3)) ((HG.out _ HGr.out).kinds.below hb3))
      clear hb3
      gi_wp2_with fail
      refine (callsIn_wide.2 HC.out).mono ?_
      rintro e w2 ⟨rfl, b2⟩
      have b2 := HB3.out.trans (b2.mono HB3.out.size)
      have HJ2 := Lib.hid (HJ.out _ _ _ HJr.out b2)
      have HG2 := Lib.hid (HGb.out _ _ HGr.out b2)
      have HP2 := Lib.hid (HP.out.snoc HLj.out (Lim.full m _))
      clear b2 HC HB3 c0 c1 c2
      generalize bts (txDe de) = x at *
      obtain ⟨fn, tmps, assign, body, hy, hR⟩ := HY.out pre x _ HJ2.out HP2.out
      have HRR := Lib.hid hR
      clear hR
      gi_wp2
      refine HRR.out.mono ?_
      rintro e w4 (⟨rfl, hJ4, hk4⟩ | ⟨rfl, hJx4⟩)
      · have HJ4 := Lib.hid hJ4
        have HG4 := Lib.hid (HGk.out _ _ HG2.out hk4)
        clear hJ4 hk4 hy HRR
        gi_wp2
        go_roundw
        case rel => exact ⟨j + 1, pre ++ [x], by omega, by go_num, Lib.hid (by have := HPl.out; simp; omega), HP2, HJ4, HG4⟩
        case measure => simp [intOf]; omega
      · have HJ4 := Lib.hid hJx4
        clear hJx4 hy
        gi_wp2
        refine bodyPost_ret (results_none rfl _ _ _) rfl ?_
        exact ⟨⟨_, rfl⟩, .inr ⟨_, HP2.out, HJ4.out⟩⟩
    · have hjk : j = p.decls.length := by omega
      have HPl := Lib.hid (HPl.out.trans hjk)
      have hl2 := (HG.out _ HGr.out).p1
      have hb2 := World.block_lt_of_cell? _ _ hl2
      have HJs := HJr
      have HGs := HGr
      clear hlt hj
      gi_wp2_with fail
      clear hl2 hb2 HJr HGr
      gi_loopw [25] (fun ix wr => ∃ (k : Nat) (pre : List ByteArray), k ≤ p.rules.length ∧ ix = .int .i64 k ∧ Hid (pre.length = p.decls.length + k) ∧ Hid (LnP m LL pre) ∧ Hid (J pre wr) ∧ Hid (G wr)) (fun ix _ => p.rules.length - (intOf ix).toNat)
      case atStart => exact ⟨0, pre, Nat.zero_le _, rfl, HPl, HP, HJs, HGs⟩
      case round =>
        clear HPl HP HJs HGs hjk
        obtain ⟨k, pre, hk, rfl, HPl, HP, HJr, HGr⟩ := hrel
        by_cases hlt : k < p.rules.length
        · obtain ⟨g, o, rfl, hgw, hcr⟩ := (HG.out _ HGr.out).pg.rules.at_ hlt
          obtain ⟨XA, xc, XB, xd, c0, c1, c2, c3, c4, c5, hVr⟩ := hcr.open_
          have HRd := Lib.hid (HRr.out _ (List.getElem_mem hlt))
          have HLj : Hid (LL[pre.length]? = some (txRu p.rules[k])) := by show _ = _; exact HLr.out k _ hlt HPl.out
          have HVr := Lib.hid hVr
          clear hcr hVr
          generalize p.rules[k] = ru at *
          have hmo := (HG.out _ HGr.out).most
          have hmb := World.block_lt_of_cell? _ _ hmo
          have hb1 : Below wr.heap.size wr (wr.alloc (.cells #[.string ru.head.rel, .slice XA ru.head.args.length xc, .int .i64 ru.agg, .int .i64 ru.col, .slice XB ru.body.length xd, .int .i64 ru.pos] 52)) := (Below.refl _ _).alloc (Nat.le_refl _) _
          have HB1 := Lib.hid hb1
          have HC : Hid (Calls Tryz.prog 48 #[.pointer (some ⟨wr.heap.size + 1, 0, none⟩), .agg #[.string ru.head.rel, .slice XA ru.head.args.length xc, .int .i64 ru.agg, .int .i64 ru.col, .slice XB ru.body.length xd, .int .i64 ru.pos]] ((wr.alloc (.cells #[.string ru.head.rel, .slice XA ru.head.args.length xc, .int .i64 ru.agg, .int .i64 ru.col, .slice XB ru.body.length xd, .int .i64 ru.pos] 52)).alloc (.cells #[.slice none 0 0, .int .i64 m] 142)) (GotW (wr.alloc (.cells #[.string ru.head.rel, .slice XA ru.head.args.length xc, .int .i64 ru.agg, .int .i64 ru.col, .slice XB ru.body.length xd, .int .i64 ru.pos] 52)) (wr.heap.size + 1) [] (txRu ru) m ((wr.alloc (.cells #[.string ru.head.rel, .slice XA ru.head.args.length xc, .int .i64 ru.agg, .int .i64 ru.col, .slice XB ru.body.length xd, .int .i64 ru.pos] 52)).alloc (.cells #[.slice none 0 0, .int .i64 m] 142)))) := by
            show Calls _ _ _ _ _
            have h := rule_w (wr.alloc (.cells #[.string ru.head.rel, .slice XA ru.head.args.length xc, .int .i64 ru.agg, .int .i64 ru.col, .slice XB ru.body.length xd, .int .i64 ru.pos] 52)) (wr.alloc (.cells #[.string ru.head.rel, .slice XA ru.head.args.length xc, .int .i64 ru.agg, .int .i64 ru.col, .slice XB ru.body.length xd, .int .i64 ru.pos] 52)).heap.size [] m ru XA xc XB xd ((wr.alloc (.cells #[.string ru.head.rel, .slice XA ru.head.args.length xc, .int .i64 ru.agg, .int .i64 ru.col, .slice XB ru.body.length xd, .int .i64 ru.pos] 52)).alloc (.cells #[.slice none 0 0, .int .i64 m] 142)) HRd.out (HVr.out.below hb1) ((HG.out _ HGr.out).tab.below hb1) (Wr.new (wr.alloc (.cells #[.string ru.head.rel, .slice XA ru.head.args.length xc, .int .i64 ru.agg, .int .i64 ru.col, .slice XB ru.body.length xd, .int .i64 ru.pos] 52)) m) (len46 (rightRu_len HRd.out))
            unfold ruV at h
            simp only [World.size_alloc] at h
            exact h
          clear hb1
          gi_wp2_with fail
          refine (callsIn_wide.2 HC.out).mono ?_
          rintro e w2 ⟨T4, rfl, p1, p2, p3, w4, k4⟩
          rw [List.nil_append] at p1 p2 p3
          simp only [List.nil_append]
          have b2 := HB1.out.trans (w4.base.mono HB1.out.size)
          have HJ2 := Lib.hid (HJ.out _ _ _ HJr.out b2)
          have HG2 := Lib.hid (HGb.out _ _ HGr.out b2)
          have HP2 := Lib.hid (HP.out.snoc HLj.out (x := bts T4) ⟨fun h => by rw [p1 h], fun h => by rw [bts_size]; exact p2 h, by rw [bts_size]; exact p3⟩)
          obtain ⟨A9, c9, o9, r9⟩ := w4.own
          have hcv := convS r9
          have y0 := o9.cell 0
          have yl := o9.lt
          simp only [List.getElem?_cons_zero] at y0
          generalize decide ((↑(txRu ru).length : Int) ≤ m) = dd at *
          clear b2 HC HB1 c0 c1 c2 c3 c4 c5 p1 p2 p3 w4 k4 o9 r9 hmo hmb
          generalize bts T4 = x at *
          obtain ⟨fn, tmps, assign, body, hy, hR⟩ := HY.out pre x _ HJ2.out HP2.out
          have HRR := Lib.hid hR
          clear hR
          gi_wp2
          refine HRR.out.mono ?_
          rintro e w4 (⟨rfl, hJ4, hk4⟩ | ⟨rfl, hJx4⟩)
          · have HJ4 := Lib.hid hJ4
            have HG4 := Lib.hid (HGk.out _ _ HG2.out hk4)
            clear hJ4 hk4 hy HRR hcv y0 yl
            gi_wp2
            go_roundw
            case rel => exact ⟨k + 1, pre ++ [x], by omega, by go_num, Lib.hid (by have := HPl.out; simp; omega), HP2, HJ4, HG4⟩
            case measure => simp [intOf]; omega
          · have HJ4 := Lib.hid hJx4
            clear hJx4 hy
            gi_wp2
            refine bodyPost_ret (results_none rfl _ _ _) rfl ?_
            exact ⟨⟨_, rfl⟩, .inr ⟨_, HP2.out, HJ4.out⟩⟩
        · have HF : Hid (pre.length = LL.length) := by show _ = _; rw [HPl.out, HLl.out]; omega
          gi_wp2
          go_end0
          exact ⟨⟨_, rfl⟩, .inl ⟨_, ⟨HP.out, HF.out⟩, HJr.out⟩⟩
end Go.Proofs.YtikohamfnnlhcaaGreatDoor

set_option linter.unusedVariables false
set_option linter.unusedSimpArgs false
namespace Go.Proofs.YtikohamfnnlhcaaGreatDoor
open Go.RowKit Go.Deep Go.Shelf
attribute [local go_sem] Oper.semAt_some

/-- what a loop's body keeps: the blocks of S. -/
structure Stay (S : Nat → Prop) (X Y : World) : Prop where
  os : Y.os = X.os
  tape : Y.tape = X.tape
  output : Y.output = X.output
  size : X.heap.size ≤ Y.heap.size
  block : ∀ (k : Nat) (o : Obj), S k → X.heap[k]? = some o → o.isCells = true → Y.heap[k]? = some o
section
variable {S : Nat → Prop} {w X Y Z : World}
theorem Stay.trans (h : Stay S X Y) (h' : Stay S Y Z) : Stay S X Z := ⟨h'.os.trans h.os, h'.tape.trans h.tape, h'.output.trans h.output, Nat.le_trans h.size h'.size, fun k o hk ho hc => h'.block k o hk (h.block k o hk ho hc) hc⟩
theorem Stay.calm {n : Nat} (h : Calm n X Y) : Stay S X Y := ⟨h.os, h.tape, h.output, h.size, fun k o _ ho hc => h.block k o ho (.inr hc)⟩
theorem Stay.kept {L : List Nat} (h : Kept L X Y) (hs : ∀ k, S k → k ∉ L) : Stay S X Y := ⟨h.os, h.tape, h.output, h.size, fun k o hk ho _ => (h.block k (Array.getElem?_eq_some_iff.1 ho).1 (hs k hk)).trans ho⟩
theorem Stay.own (h : Stay S X Y) {g : Nat} {e : TypeId} {xs : List Value} (ho : Own X g e xs) (hg : S g) : Own Y g e xs := h.block _ _ hg ho rfl
theorem Calm.stay (h : Calm 0 w X) (hs : Stay S X Y) (hS : ∀ k, k < w.heap.size → S k) : Calm 0 w Y :=
  ⟨hs.os.trans h.os, hs.tape.trans h.tape, hs.output.trans h.output, Nat.le_trans h.size hs.size, fun k o ho hc => by
    have hcl : o.isCells = true := by rcases hc with hc | hc; omega; exact hc
    exact hs.block k o (hS k (Array.getElem?_eq_some_iff.1 ho).1) (h.block k o ho (.inr hcl)) hcl⟩
theorem Calm.lays (h : Calm 0 X Y) (hL : Lays X) : Lays Y := by
  obtain ⟨h1, h2, h3, ⟨t4, p4, h4⟩, ⟨t5, p5, h5⟩⟩ := hL
  have hv : ∀ {n : String} {g : Nat} {cs : Array Value}, Tryz.prog.globalNamed n = some g → World.var? Tryz.prog X n = some cs → World.var? Tryz.prog Y n = some cs := fun hg hv => by
    obtain ⟨t, f, he⟩ := var_lt hg hv
    exact var_of hg (h.block _ _ he (.inr rfl))
  exact ⟨fun j x hx => h.cell (h1 j x hx), fun j x hx => h.cell (h2 j x hx), hv gPow h3, ⟨t4, p4, hv gSyn h4⟩, ⟨t5, p5, hv gRng h5⟩⟩
theorem Calm.strTab {g : Nat} {L : List (List UInt8)} (h : Calm 0 X Y) (hL : StrTab X g L) : StrTab Y g L := ⟨Nat.lt_of_lt_of_le hL.1 h.size, fun j x hx => h.cell (hL.2 j x hx)⟩
theorem Calm.sht (h : Calm 0 X Y) (hS : Sht X) : Sht Y := ⟨h.lays hS.lays, ⟨Nat.lt_of_lt_of_le hS.ops.1 h.size, fun j x hx => ⟨h.cell (hS.ops.2 j x hx).1, h.cell (hS.ops.2 j x hx).2⟩⟩, h.strTab hS.cmps, h.strTab hS.aggs⟩
theorem Calm.lnG {p : TPg} {A : Option Addr} {c : Nat} {B : Option Addr} {d : Nat} {m : Int} {bp bm : Nat} (h : Calm 0 X Y) (hG : LnG p A c B d m bp bm X) : LnG p A c B d m bp bm Y :=
  ⟨hG.pg.pers (.calm h), h.sht hG.tab, h.strTab hG.kinds, h.cell hG.p0, h.cell hG.p1, h.cell hG.most⟩
end
/-- texts in a row of their own. -/
def TxR (n0 : Nat) (W : World) (v : Value) (xs : List ByteArray) : Prop := W.ownsRow n0 9 1 v xs.length (xs.map .string)
theorem TxR.val {n0 : Nat} {W : World} {v : Value} {xs : List ByteArray} (h : TxR n0 W v xs) : ∃ A c, v = .slice A xs.length c := by
  rcases h.2 with ⟨h1, h2⟩ | ⟨g, cap, cur, h1, _⟩
  · exact ⟨none, 0, by rw [h1, h2]⟩
  · exact ⟨_, _, h1⟩
theorem TxR.keep {n0 : Nat} {W W' : World} {v : Value} {xs : List ByteArray} (h : TxR n0 W v xs) (hk : ∀ k o, v.ownBlock = some k → W.heap[k]? = some o → o.isCells = true → W'.heap[k]? = some o) : TxR n0 W' v xs := by
  refine ⟨h.1, h.2.imp id ?_⟩
  rintro ⟨g, cap, cur, h1, hg, hc, hh⟩
  exact ⟨g, cap, cur, h1, hg, hk g _ (by rw [h1]; rfl) hc rfl, hh⟩
theorem TxR.calm {n0 n : Nat} {W W' : World} {v : Value} {xs : List ByteArray} (h : TxR n0 W v xs) (hc : Calm n W W') : TxR n0 W' v xs := h.keep fun k o _ ho hcl => hc.block k o ho (.inr hcl)
theorem TxR.lo {n0 : Nat} {W : World} {v : Value} {xs : List ByteArray} (h : TxR n0 W v xs) {k : Nat} (hk : v.ownBlock = some k) : n0 ≤ k ∧ k < W.heap.size ∧ ∃ cur, W.heap[k]? = some (.cells cur 9 (0, 0)) := by
  rcases h.2 with ⟨h1, h2⟩ | ⟨g, cap, cur, h1, hg, hc, _⟩
  · rw [h1] at hk; cases hk
  · rw [h1] at hk
    injection hk with hk
    subst hk
    exact ⟨hg, (Array.getElem?_eq_some_iff.1 hc).1, cur, hc⟩
theorem TxR.nil (n0 : Nat) (W : World) : TxR n0 W (.slice none 0 0) [] := World.ownsRow_nil _ _ _ _
theorem infoStrS : (Tryz.prog.info? 9).map (fun i => (i.zero, i.size, i.bytes)) = some (some (.string noText), 1, 16) := by kernel_rfl
theorem owns_valS {w : World} {base n : Nat} {e : TypeId} {v : Value} {xs : List Value} (h : w.ownsRow base e 1 v (n + 1) xs) : ∃ g cap, v = .slice (some ⟨g, 0, none⟩) (n + 1) cap := by
  obtain ⟨_, ⟨_, h2⟩ | ⟨g, cap, cur, h2, _⟩⟩ := h
  · omega
  · exact ⟨g, cap, h2⟩
/-- a slice of texts in its box, between two rounds. -/
def SCol (w : World) (pre : List ByteArray) (W : World) : Prop := ∃ v, Own W w.heap.size 33 [v] ∧ TxR (w.heap.size + 1) W v pre ∧ Below w.heap.size w W
theorem SCol.calm {w : World} {B : Nat} {pre : List ByteArray} {X Y : World} (h : SCol w pre X) (hc : Calm B X Y) (hB : w.heap.size ≤ B) : SCol w pre Y := by
  obtain ⟨v, h1, h2, h3⟩ := h
  exact ⟨v, hc.own h1, h2.calm hc, Below.calm h3 hc (Nat.le_refl _) hB⟩
/-- one more in the slice, stored in its box. -/
theorem scol_step {w W w1 : World} {B0 : Nat} {pre : List ByteArray} {x : ByteArray} {v v' : Value} {tmp : Obj}
    (hO : Own W w.heap.size 33 [v]) (hr : TxR (w.heap.size + 1) W v pre) (hb : Below w.heap.size w W)
    (ho : w1.ownsRow (w.heap.size + 1) 9 1 v' (pre.length + 1) (pre.map .string ++ [.string x])) (hg : (W.alloc tmp).grownBy w1 v.ownBlock) :
    KeepsFrom B0 W (w1.setCell ⟨w.heap.size, 0, none⟩ v') ∧ Stay (fun k => k < w.heap.size) W (w1.setCell ⟨w.heap.size, 0, none⟩ v') ∧ SCol w (pre ++ [x]) (w1.setCell ⟨w.heap.size, 0, none⟩ v') := by
  have kw1 : Kept v.ownBlock.toList W w1 := ((Kept.refl v.ownBlock.toList W).alloc tmp).trans (Kept.grown hg (fun k hk => by rw [hk]; simp)) (fun k hk => .inl hk)
  have hlo : ∀ k ∈ v.ownBlock.toList, w.heap.size + 1 ≤ k ∧ k < W.heap.size ∧ ∃ cur, W.heap[k]? = some (.cells cur 9 (0, 0)) := fun k hk => hr.lo (by simpa using hk)
  have k3 : Kept (w.heap.size :: v.ownBlock.toList) W (w1.setCell ⟨w.heap.size, 0, none⟩ v') := (kw1.more (fun k hk => List.mem_cons_of_mem _ hk)).setCell (.inl (by simp)) _
  have hcells : ∀ k ∈ w.heap.size :: v.ownBlock.toList, ∀ o, W.heap[k]? = some o → o.isCells = true := fun k hk o ho' => by
    rcases List.mem_cons.1 hk with rfl | hk
    · unfold Own at hO
      rw [hO] at ho'
      cases ho'
      rfl
    · obtain ⟨_, _, cur, hc⟩ := hlo k hk
      rw [hc] at ho'
      cases ho'
      rfl
  have hO1 : Own w1 w.heap.size 33 [v] := kw1.own hO (fun hm => by have := (hlo _ hm).1; omega)
  have hr1 : TxR (w.heap.size + 1) w1 v' (pre ++ [x]) := by
    unfold TxR
    simp only [List.length_append, List.length_cons, List.length_nil, List.map_append, List.map_cons, List.map_nil]
    exact ho
  refine ⟨k3.keeps hcells _, Stay.kept k3 (fun k hk => ?_), v', hO1.set 0 v', hr1.keep (fun k o hk ho' _ => ?_), ?_⟩
  · intro hm
    rcases List.mem_cons.1 hm with rfl | hm
    · omega
    · have := (hlo k hm).1
      omega
  · have := (hr1.lo hk).1
    exact (Below.heap_setCell _ _ _ _ (by show k ≠ w.heap.size; omega)).trans ho'
  · exact hb.trans (k3.below hb.size (fun k hk => by
      rcases List.mem_cons.1 hk with rfl | hk
      · exact Nat.le_refl _
      · have := (hlo k hk).1; omega))
set_option maxRecDepth 100000 in
set_option maxHeartbeats 2000000 in
theorem AppendSeqS (p : TPg) (A : Option Addr) (c : Nat) (B : Option Addr) (d : Nat) (m : Int) (bp bm : Nat) (w : World) (hf : formedB p = true) (hG : LnG p A c B d m bp bm w) :
    Calls Tryz.prog 70 #[.slice none 0 0, .func (.func 71) #[] #[.pointer (some ⟨bp, 0, none⟩), .pointer (some ⟨bm, 0, none⟩)]] w fun e w' =>
      ∃ v xs, e = .returned v ∧ (LnP m (linesX p) xs ∧ xs.length = (linesX p).length) ∧ TxR w.heap.size w' v xs ∧ Below w.heap.size w w' := by
  refine (callsIn_wide (n := 9)).1 ?_
  obtain ⟨i0, hi0, hz0, hzs, hzb⟩ := info_parts infoStrS
  have hF : Fence.wide.fn 71 := trivial
  have hF2 : Fence.wide.fn 70 := trivial
  have HG := Lib.hid hG
  have HFm := Lib.hid hf
  have HLl : Hid ((linesX p).length ≤ 96) := by
    obtain ⟨h1, _, h2, _⟩ := formed_parts hf
    show _ ≤ _
    rw [linesX_len]
    omega
  clear hG hf
  refine callsIn_of_wp_marks Tryz.func70 rfl hF2 ?_ rfl
  simp only [Tryz.ntmps70, List.size_toArray, List.length_cons, List.length_nil, Nat.reduceAdd, Nat.reduceSub, Array.replicate_succ, Array.replicate_zero, List.push_toArray, List.append_toArray, List.nil_append, List.cons_append]
  gi_wp2_with fail
  have hc0 : Calm 0 w (w.alloc (.cells #[.slice none 0 0] 33)) := Calm.alloc _ _ _
  have hO0 : Own (w.alloc (.cells #[.slice none 0 0] 33)) w.heap.size 33 [.slice none 0 0] := heap_alloc_new w _
  obtain ⟨W0, hW0⟩ : ∃ W0, W0 = w.alloc (.cells #[.slice none 0 0] 33) := ⟨_, rfl⟩
  have hs0 : W0.heap.size = w.heap.size + 1 := by rw [hW0]; simp
  rw [← hW0] at hc0 hO0 ⊢
  have hb0 : Below w.heap.size w W0 := by rw [hW0]; exact (Below.refl _ _).alloc (Nat.le_refl _) _
  clear hW0
  refine range_law (Kp := Stay (fun k => k < w.heap.size)) (Px := fun pre x _ => LnP m (linesX p) (pre ++ [x])) (S := fun xs => LnP m (linesX p) xs ∧ xs.length = (linesX p).length) (Sp := fun pre => LnP m (linesX p) pre) (encs := fun x : ByteArray => #[.string x]) rfl (by omega) (gf := 71) (lb := #[.pointer (some ⟨bp, 0, none⟩), .pointer (some ⟨bm, 0, none⟩)]) rfl hF (enters_of Tryz.func71 (by kernel_rfl) rfl)
    ?seq (fun h h' => h.trans h') (fun X Y hX hc => Stay.calm hc) (fun _ => rfl)
    (SCol w) (fun _ _ _ => False) (fun s X Y h hc => h.calm hc (by omega)) (fun _ _ _ _ h _ => h)
    (fun pre x X Y h hc => h) ?i0
    (fun x => { tmps := #[.slice none 0 0, .func (.func 71) #[] #[.pointer (some ⟨bp, 0, none⟩), .pointer (some ⟨bm, 0, none⟩)], .pointer (some ⟨w.heap.size, 0, none⟩), undef, .slice none 0 0, .string x, .func (.func 71) #[] #[.pointer (some ⟨bp, 0, none⟩), .pointer (some ⟨bm, 0, none⟩)], .string x, undef, undef, undef, undef, undef], defers := [] }) ?assign ?body ?done ?stop
  case seq =>
    intro l J Jx W hW hJ hJx hY h0
    have hcw : Calm 0 w W := hc0.trans (Calm.of_below 0 hW)
    exact lines_in 8 (by omega) l p A c B d m bp bm (fun X => Calm 0 w X) (Stay (fun k => k < w.heap.size)) J Jx W HFm.out (fun X hX => hX.lnG HG.out) (fun X Y hX hb => hX.trans (Calm.of_below 0 hb)) (fun X Y hX hs => hX.stay hs (fun _ h => h)) hJ hJx (fun pre x W1 h1 h2 => hY pre x W1 h1 h2) h0 hcw
  case i0 => exact ⟨_, hO0, TxR.nil _ _, hb0⟩
  case assign =>
    intro l x W K hK
    gi_wp2
    exact hK
  case body =>
    rintro l pre x W ⟨v, hO, hr, hb⟩ hpre
    have hlp : pre.length ≤ 96 := by
      have h1 := hpre.1
      have h2 := HLl.out
      simp only [List.length_append, List.length_cons, List.length_nil] at h1
      omega
    have hc := hO.cell 0
    have q1 := hO.lt
    obtain ⟨A0, c0, rfl⟩ := hr.val
    have HO : Hid ((W.alloc (.cells #[.string x] 9)).ownsRow (w.heap.size + 1) 9 1 (.slice A0 pre.length c0) pre.length (pre.map .string)) := hr.calm (Calm.alloc 0 _ _)
    have HOw := Lib.hid hO
    have HR := Lib.hid hr
    have HB := Lib.hid hb
    have hnews : ∀ j u, [Value.string x][j]? = some u → (W.alloc (.cells #[.string x] 9)).cell? ((⟨W.heap.size, 0, none⟩ : Addr).add j) = some u := fun j u hj => by
      have hv : Own (W.alloc (.cells #[.string x] 9)) W.heap.size 9 [.string x] := heap_alloc_new W _
      rw [Addr.add_lit, Nat.zero_add, hv.cell]
      exact hj
    have HNw := Lib.hid hnews
    have hws : w.heap.size + 1 ≤ (W.alloc (.cells #[.string x] 9)).heap.size := by simp; omega
    clear hO hr hb hpre hnews hc0 hO0 hb0
    have hb1 : pre.length + 1 ≤ maxLen := by unfold maxLen; omega
    have hb2 : (pre.length + 1) * 16 ≤ 140737488355328 := by omega
    have hone : ∀ u ∈ [Value.string x], u.oneCell' = true := by simp [Value.oneCell']
    gi_wp2_with (gi_at_builtin; refine wpListIn_append_own_at _ rfl _ _ 33 rfl (w.heap.size + 1) 9 i0 _ 1 16 Tryz.underlying33 hi0 hz0 hzs hzb rfl (by decide) (.slice A0 pre.length c0) pre.length (pre.map .string) rfl HO.out ⟨W.heap.size, 0, none⟩ 1 1 [.string x] rfl rfl HNw.out hone hb1 hb2 hws ?_; intro v' w1 ho hg _ hat; obtain ⟨g1, cap1, rfl⟩ := owns_valS ho; have HQ := Lib.hid (scol_step (x := x) (B0 := W0.heap.size) HOw.out HR.out HB.out ho hg); have k1 := (((Kept.refl (Value.slice A0 pre.length c0).ownBlock.toList W).alloc (.cells #[.string x] 9)).trans (Kept.grown hg (fun k hk => by rw [hk]; simp)) (Sub.refl _ _)).own HOw.out (fun hm => by have := (HR.out.lo (by simpa using hm)).1; omega); have h1 := k1.cell 0; have f1 := k1.frozen 0; have q3 := k1.lt; clear ho hg hat k1)
    exact HQ.out
  case done =>
    rintro D ys W hD hys ⟨v, hO, hr, hb⟩ hK
    have hc := hO.cell 0
    have q1 := hO.lt
    obtain ⟨A0, c0, rfl⟩ := hr.val
    have hcm : Calm W0.heap.size W (W.putObj D (.deferred none)) := Calm.put _ hK rfl hD
    have HQ : Hid (TxR w.heap.size (W.putObj D (.deferred none)) (.slice A0 ys.length c0) ys ∧ Below w.heap.size w (W.putObj D (.deferred none))) := by
      refine ⟨?_, Below.calm hb hcm (Nat.le_refl _) (by omega)⟩
      have h9 := hr.calm hcm
      exact ⟨h9.1, h9.2.imp id (fun ⟨g, cap, cur, h1, hg, hh⟩ => ⟨g, cap, cur, h1, by omega, hh⟩)⟩
    have HYs := Lib.hid hys
    clear hO hr hb hys hcm
    gi_wp2
    refine ⟨by simp, .inl ⟨_, _, rfl, run_takeDeferred hK, ?_⟩⟩
    exact ⟨.slice A0 ys.length c0, (by simp [results, Tryz.results70, go_sem]), _, ys, rfl, HYs.out, HQ.out⟩
  case stop =>
    rintro D c pre W _ _ h _
    exact h.elim
end Go.Proofs.YtikohamfnnlhcaaGreatDoor

set_option linter.unusedVariables false
set_option linter.unusedSimpArgs false
namespace Go.Proofs.YtikohamfnnlhcaaGreatDoor
open Go.RowKit Go.Deep Go.Shelf
attribute [local go_sem] Oper.semAt_some

theorem lnP_all {m : Int} {Ls : List (List UInt8)} {xs : List ByteArray} (h : LnP m Ls xs) (hl : xs.length = Ls.length) (hm : ∀ l ∈ Ls, (l.length : Int) ≤ m) : xs = Ls.map bts := by
  apply List.ext_getElem?
  intro i
  by_cases hi : i < xs.length
  · have h1 : xs[i]? = some xs[i] := List.getElem?_eq_getElem hi
    have h2 : Ls[i]? = some Ls[i] := List.getElem?_eq_getElem (by omega)
    rw [List.getElem?_map, h2, h1, (h.2 i _ _ h1 h2).1 (hm _ (List.getElem_mem _))]
    rfl
  · rw [List.getElem?_eq_none (by omega), List.getElem?_eq_none (by rw [List.length_map]; omega)]
theorem TxR.at_ {n0 : Nat} {W : World} {A : Option Addr} {c : Nat} {xs : List ByteArray} (h : TxR n0 W (.slice A xs.length c) xs) {k : Nat} (hk : k < xs.length) : ∃ g, A = some ⟨g, 0, none⟩ ∧ g < W.heap.size ∧ n0 ≤ g ∧ W.cell? ⟨g, k, none⟩ = some (.string xs[k]) := by
  rcases h.2 with ⟨h1, h2⟩ | ⟨g, cap, cur, h1, hg, hc, h3, h4, h5, h6⟩
  · omega
  · injection h1 with h1 _ _
    refine ⟨g, h1, (Array.getElem?_eq_some_iff.1 hc).1, hg, ?_⟩
    have h7 : cur[k]? = some (.string xs[k]) := by
      have h8 := congrArg (·[k]?) h6
      simp only [List.getElem?_take, List.getElem?_map, List.getElem?_eq_getElem hk, Option.map_some] at h8
      rw [if_pos (by omega)] at h8
      rw [← Array.getElem?_toList]
      exact h8
    rw [cell_of_row W g k cur _ (0, 0) hc]
    exact h7
set_option maxRecDepth 100000 in
set_option maxHeartbeats 2000000 in
theorem vals_inS (n : Nat) (hn : 1 ≤ n) (l : Nat) (xs : List ByteArray) (A : Option Addr) (c : Nat) (n0 bs : Nat) (G : World → Prop) (Kp : World → World → Prop) (J Jx : List ByteArray → World → Prop) (W : World)
    (hG : ∀ X, G X → X.cell? ⟨bs, 0, none⟩ = some (.slice A xs.length c) ∧ TxR n0 X (.slice A xs.length c) xs) (hGb : ∀ X Y, G X → Below X.heap.size X Y → G Y) (hGk : ∀ X Y, G X → Kp X Y → G Y)
    (hJ : ∀ s X Y, J s X → Below X.heap.size X Y → J s Y) (hJx : ∀ s X Y, Jx s X → Below X.heap.size X Y → Jx s Y)
    (hY : ∀ pre x W1, J pre W1 → (pre ++ [x]) <+: xs → YieldAt Fence.wide (n - 1) Tryz.prog l #[.string x] W1 fun e W' =>
      (e = .returned (.bool true) ∧ J (pre ++ [x]) W' ∧ Kp W1 W') ∨ (e = .returned (.bool false) ∧ Jx (pre ++ [x]) W'))
    (h0 : J [] W) (g0 : G W) :
    CallsIn Fence.wide n Tryz.prog 73 #[.func (.yield l) #[] #[], .pointer (some ⟨bs, 0, none⟩)] W fun e W' => (∃ v, e = .returned v) ∧
      ((∃ ys, ys = xs ∧ J ys W') ∨ (∃ pre, pre <+: xs ∧ Jx pre W')) := by
  have HY := Lib.hid hY
  have HG := Lib.hid hG
  have HGk := Lib.hid hGk
  have H0 := Lib.hid h0
  have G0 := Lib.hid g0
  have hl1 := (hG W g0).1
  have hb1 := World.block_lt_of_cell? _ _ hl1
  have hlx : xs.length ≤ maxLen := by
    rcases (hG W g0).2.2 with ⟨_, h⟩ | ⟨_, cap, _, _, _, _, h1, h2, _⟩
    · omega
    · omega
  unfold maxLen at hlx
  clear hY hJ hJx hG hGb hGk h0 g0
  have hff : Fence.wide.fn 73 := trivial
  refine callsIn_of_wp Tryz.func73 rfl hff ?_ rfl
  simp only [Tryz.ntmps73, List.size_toArray, List.length_cons, List.length_nil, Nat.reduceAdd, Nat.reduceSub, Array.replicate_succ, Array.replicate_zero, List.push_toArray, List.append_toArray, List.nil_append, List.cons_append]
  gi_wp2_with fail
  clear hl1 hb1
  gi_loopw [7] (fun ix wr => ∃ j : Nat, j ≤ xs.length ∧ ix = .int .i64 j ∧ Hid (J (xs.take j) wr) ∧ Hid (G wr)) (fun ix _ => xs.length - (intOf ix).toNat)
  case atStart => exact ⟨0, Nat.zero_le _, rfl, H0, G0⟩
  case round =>
    obtain ⟨j, hj, rfl, HJr, HGr⟩ := hrel
    by_cases hlt : j < xs.length
    · obtain ⟨g, rfl, hgr, _, hcl⟩ := (HG.out _ HGr.out).2.at_ hlt
      have HEt : Hid (xs.take j ++ [xs[j]] = xs.take (j + 1)) := by show _ = _; rw [List.take_succ_eq_append_getElem hlt]
      have HEp : Hid (xs.take j ++ [xs[j]] <+: xs) := by show _ <+: _; rw [HEt.out]; exact List.take_prefix _ _
      generalize xs[j] = x at *
      obtain ⟨fn, tmps, assign, body, hy, hR⟩ := HY.out (xs.take j) x _ HJr.out HEp.out
      have HRR := Lib.hid hR
      clear hR
      gi_wp2
      refine HRR.out.mono ?_
      rintro e w4 (⟨rfl, hJ4, hk4⟩ | ⟨rfl, hJx4⟩)
      · have HJ4 := Lib.hid hJ4
        have HG4 := Lib.hid (HGk.out _ _ HGr.out hk4)
        rw [HEt.out] at HJ4
        clear hJ4 hk4 hy HRR hcl
        gi_wp2
        go_roundw
        case rel => exact ⟨j + 1, by omega, by go_num, HJ4, HG4⟩
        case measure => simp [intOf]; omega
      · have HJ4 := Lib.hid hJx4
        clear hJx4 hy
        gi_wp2
        refine bodyPost_ret (results_none rfl _ _ _) rfl ?_
        exact ⟨⟨_, rfl⟩, .inr ⟨_, HEp.out, HJ4.out⟩⟩
    · have hjk : j = xs.length := by omega
      have hJf : Hid (J xs wr) := by have h := HJr.out; rw [hjk, List.take_length] at h; exact h
      gi_wp2
      go_end0
      exact ⟨⟨_, rfl⟩, .inl ⟨_, rfl, hJf.out⟩⟩
set_option maxRecDepth 100000 in
theorem lines_any (p : TPg) (A : Option Addr) (c : Nat) (B : Option Addr) (d : Nat) (m : Int) (w : World) :
    Calls Tryz.prog 38 #[pgV p A c B d, .int .i64 m] w fun e w' => e = .returned (.func (.func 71) #[] #[.pointer (some ⟨w.heap.size, 0, none⟩), .pointer (some ⟨w.heap.size + 1, 0, none⟩)]) ∧
      w' = (w.alloc (.cells #[.slice A p.decls.length c, .slice B p.rules.length d] 25)).alloc (.cells #[.int .i64 m] 3) := by
  unfold pgV
  go_enter Tryz.func38, Tryz.ntmps38
  go_wp2
  go_ret
  exact ⟨rfl, rfl⟩
theorem lnG_new {p : TPg} {A : Option Addr} {c : Nat} {B : Option Addr} {d : Nat} {m : Int} {w : World} (hV : PgV w p A B) (hS : Sht w) (hK : StrTab w 3 kindsL) :
    LnG p A c B d m w.heap.size (w.heap.size + 1) ((w.alloc (.cells #[.slice A p.decls.length c, .slice B p.rules.length d] 25)).alloc (.cells #[.int .i64 m] 3)) := by
  have hb : Below w.heap.size w ((w.alloc (.cells #[.slice A p.decls.length c, .slice B p.rules.length d] 25)).alloc (.cells #[.int .i64 m] 3)) := ((Below.refl _ _).alloc (Nat.le_refl _) _).alloc (by simp) _
  have o1 : Own (w.alloc (.cells #[.slice A p.decls.length c, .slice B p.rules.length d] 25)) w.heap.size 25 [.slice A p.decls.length c, .slice B p.rules.length d] := heap_alloc_new _ _
  have o1 := o1.alloc (.cells #[.int .i64 m] 3)
  have o2 : Own ((w.alloc (.cells #[.slice A p.decls.length c, .slice B p.rules.length d] 25)).alloc (.cells #[.int .i64 m] 3)) (w.heap.size + 1) 3 [.int .i64 m] := own_second w _ _ _
  exact ⟨hV.below hb, hS.below hb, hK.below hb, o1.cell 0, o1.cell 1, o2.cell 0⟩
set_option maxRecDepth 100000 in
theorem CollectS (p : TPg) (A : Option Addr) (c : Nat) (B : Option Addr) (d : Nat) (m : Int) (bp bm : Nat) (w : World) (hf : formedB p = true) (hG : LnG p A c B d m bp bm w) :
    Calls Tryz.prog 37 #[.func (.func 71) #[] #[.pointer (some ⟨bp, 0, none⟩), .pointer (some ⟨bm, 0, none⟩)]] w fun e w' =>
      ∃ v xs, e = .returned v ∧ (LnP m (linesX p) xs ∧ xs.length = (linesX p).length) ∧ TxR w.heap.size w' v xs ∧ Below w.heap.size w w' := by
  have HC := Lib.hid (AppendSeqS p A c B d m bp bm w hf hG)
  clear hG hf
  go_enter Tryz.func37, Tryz.ntmps37
  go_wp2_with fail
  refine HC.out.mono ?_
  rintro e w' ⟨v, xs, rfl, h1, h2, h3⟩
  obtain ⟨A0, c0, rfl⟩ := h2.val
  have H1 := Lib.hid h1
  have H2 := Lib.hid h2
  have H3 := Lib.hid h3
  clear h1 h2 h3 HC
  go_wp2
  go_ret
  exact ⟨_, xs, rfl, H1.out, H2.out, H3.out⟩
theorem ValuesS (v : Value) (w : World) (A : Option Addr) (n c : Nat) (hv : v = .slice A n c) : Calls Tryz.prog 39 #[v] w fun e w' => e = .returned (.func (.func 73) #[] #[.pointer (some ⟨w.heap.size, 0, none⟩)]) ∧ w' = w.alloc (.cells #[v] 33) := by
  subst hv
  go_enter Tryz.func39, Tryz.ntmps39
  go_wp2
  go_ret
  exact ⟨rfl, rfl⟩
/-- what show.Lines gives: an iterator over these texts. -/
def LinesAt (w : World) (Ls : List ByteArray) (e : Ending) (w' : World) : Prop :=
  ∃ bs A c, e = .returned (.func (.func 73) #[] #[.pointer (some ⟨bs, 0, none⟩)]) ∧ w.heap.size ≤ bs ∧ Own w' bs 33 [.slice A Ls.length c] ∧ TxR w.heap.size w' (.slice A Ls.length c) Ls ∧ Below w.heap.size w w'
set_option maxRecDepth 100000 in
set_option maxHeartbeats 1000000 in
theorem Lines_anyS (p : TPg) (A : Option Addr) (c : Nat) (B : Option Addr) (d : Nat) (w : World) (hV : PgV w p A B) (hS : Sht w) (hK : StrTab w 3 kindsL) :
    Calls Tryz.prog 11 #[pgV p A c B d] w (LinesAt w (if formedB p = true then (linesX p).map bts else [])) := by
  have hb : Below w.heap.size w (w.alloc (.cells #[.slice A p.decls.length c, .slice B p.rules.length d] 25)) := (Below.refl _ _).alloc (Nat.le_refl _) _
  have HB := Lib.hid hb
  have HO : Hid (Own (w.alloc (.cells #[.slice A p.decls.length c, .slice B p.rules.length d] 25)) w.heap.size 25 [.slice A p.decls.length c, .slice B p.rules.length d]) := heap_alloc_new _ _
  have HC := Lib.hid (Formed_any p A c B d _ (hV.below hb) (hS.lays.below hb))
  have HV := Lib.hid hV
  have HS := Lib.hid hS
  have HK := Lib.hid hK
  have HLx := Lib.hid (fun h => linesX_each (p := p) h)
  unfold pgV at HC ⊢
  clear hb hV hS hK
  cases hf : formedB p with
  | false =>
    rw [hf] at HC
    simp only [Bool.false_eq_true, if_false]
    go_enter Tryz.func11, Tryz.ntmps11
    go_wp2_with fail
    refine HC.out.mono ?_
    rintro e w2 ⟨rfl, b2⟩
    have HB2 := Lib.hid (HB.out.trans (b2.mono HB.out.size))
    have HVs := Lib.hid (ValuesS (.slice none 0 0) w2 none 0 0 rfl)
    clear b2 HC
    go_wp2_with fail
    refine HVs.out.mono ?_
    rintro e w3 ⟨rfl, rfl⟩
    clear HVs
    go_wp2
    go_ret
    exact ⟨w2.heap.size, none, 0, rfl, HB2.out.size, heap_alloc_new _ _, TxR.nil _ _, HB2.out.alloc HB2.out.size _⟩
  | true =>
    rw [hf] at HC
    have HLx := Lib.hid (HLx.out hf)
    have HF := Lib.hid hf
    simp only [if_true]
    go_enter Tryz.func11, Tryz.ntmps11
    clear hf
    go_wp2_with fail
    refine HC.out.mono ?_
    rintro e w2 ⟨rfl, b2⟩
    have HB2 := Lib.hid (HB.out.trans (b2.mono HB.out.size))
    have HO2 := Lib.hid (HO.out.below b2)
    have HLn := Lib.hid (lines_any p A c B d 9223372036854775807 w2)
    unfold pgV at HLn
    have p0 := HO2.out.cell 0
    have p1 := HO2.out.cell 1
    have pl := HO2.out.lt
    simp only [List.getElem?_cons_zero, List.getElem?_cons_succ] at p0 p1
    have HCo := Lib.hid (CollectS p A c B d 9223372036854775807 w2.heap.size (w2.heap.size + 1) _ HF.out (lnG_new (HV.out.below HB2.out) (HS.out.below HB2.out) (HK.out.below HB2.out)))
    clear b2 HC
    go_wp2_with fail
    refine HLn.out.mono ?_
    rintro e w3 ⟨rfl, rfl⟩
    clear HLn
    go_wp2_with fail
    refine HCo.out.mono ?_
    rintro e w4 ⟨v, xs, rfl, ⟨hx1, hx2⟩, hr, b4⟩
    have hx : xs = (linesX p).map bts := lnP_all hx1 hx2 (fun l hl => by have := HLx.out l hl; omega)
    have HB4 : Hid (Below w.heap.size w w4) := by
      have h1 : Below w2.heap.size w2 ((w2.alloc (.cells #[.slice A p.decls.length c, .slice B p.rules.length d] 25)).alloc (.cells #[.int .i64 9223372036854775807] 3)) := ((Below.refl _ _).alloc (Nat.le_refl _) _).alloc (by simp) _
      exact HB2.out.trans ((h1.trans (b4.mono h1.size)).mono HB2.out.size)
    have hr : TxR w.heap.size w4 v xs := ⟨hr.1, hr.2.imp id (fun ⟨g, cap, cur, h1, hg, hh⟩ => ⟨g, cap, cur, h1, by have := HB2.out.size; simp at hg; omega, hh⟩)⟩
    obtain ⟨A0, c0, rfl⟩ := hr.val
    have HR := Lib.hid hr
    have HX := Lib.hid hx
    have HVs := Lib.hid (ValuesS (.slice A0 xs.length c0) w4 A0 xs.length c0 rfl)
    clear hx hx1 hx2 hr b4 HCo p0 p1 pl
    go_wp2_with fail
    refine HVs.out.mono ?_
    rintro e w5 ⟨rfl, rfl⟩
    clear HVs
    go_wp2
    go_ret
    rw [← HX.out]
    exact ⟨w4.heap.size, A0, c0, rfl, HB4.out.size, heap_alloc_new _ _, HR.out.calm (Calm.alloc 0 _ _), HB4.out.alloc HB4.out.size _⟩
end Go.Proofs.YtikohamfnnlhcaaGreatDoor
