/- Join: the tokens' texts with blanks between; the chapter's example. Conditions: lex's two tables and strconv's variables as they are laid. -/
import Derived.Test.YtgjcaadgkeebpaaDoorLexJ
namespace Go.Proofs.YtgjcaadgkeebpaaDoor
open Go.RowKit Go.Deep Go.Shelf

/-- the first so many of a row are written. -/
theorem mid_at {α β : Type} (f : α → β) (z : β) {l : List α} {k : Nat} (hk : k < l.length) : ((l.take k).map f ++ List.replicate (l.length - k) z)[k]? = some z := by
  have h1 : ((l.take k).map f).length = k := by simp; omega
  rw [List.getElem?_append_right (by omega), h1, Nat.sub_self, List.getElem?_replicate, if_pos (by omega)]
theorem mid_set {α β : Type} (f : α → β) (z : β) {l : List α} {k : Nat} (hk : k < l.length) :
    ((l.take k).map f ++ List.replicate (l.length - k) z).set k (f l[k]) = (l.take (k + 1)).map f ++ List.replicate (l.length - (k + 1)) z := by
  have e : l.length - k = (l.length - (k + 1)) + 1 := by omega
  have h1 : ((l.take k).map f).length = k := by simp; omega
  rw [List.set_append_right _ _ (by omega), h1, Nat.sub_self, e, List.replicate_succ, List.set_cons_zero, List.take_succ_eq_append_getElem hk, List.map_append]
  simp

theorem infoStr : (Tryd.prog.info? 9).map (fun i => (i.zero, i.size, i.bytes)) = some (some (.string noText), 1, 16) := by kernel_rfl
theorem TRow.at_ {w : World} {A : Option Addr} {L : List Tk} (h : TRow w A L) {k : Nat} (hk : k < L.length) :
    ∃ b o, A = some ⟨b, o, none⟩ ∧ b < w.heap.size ∧ w.cell? ⟨b, o + k * 3, none⟩ = some (.int .i64 (L[k].1 : Int)) ∧ w.cell? ⟨b, o + k * 3 + 1, none⟩ = some (.string (bts L[k].2.1)) ∧ w.cell? ⟨b, o + k * 3 + 2, none⟩ = some (.int .i64 (L[k].2.2 : Int)) := by
  obtain ⟨b, o, h1, h2, h3⟩ := h (by omega)
  exact ⟨b, o, h1, h2, h3 k _ (List.getElem?_eq_getElem hk)⟩
theorem own_texts {w : World} {g : Nat} {L : List Tk} (h : Own w g 9 (L.map fun x => Value.string (bts x.2.1))) : ∀ (j : Nat) x, (L.map fun x : Tk => bts x.2.1)[j]? = some x → w.cell? ⟨g, 0 + j, none⟩ = some (.string x) := by
  intro j x hx
  rw [Nat.zero_add, h.cell, List.getElem?_map]
  rw [List.getElem?_map] at hx
  cases hj : L[j]? with
  | none => rw [hj] at hx; cases hx
  | some y =>
    rw [hj] at hx
    cases hx
    rfl
/-- the texts joined. -/
def joinT (L : List Tk) : List UInt8 := Lib.join (L.map fun x => x.2.1) [32]

set_option maxRecDepth 100000 in
set_option maxHeartbeats 1000000 in
theorem Join_any (A : Option Addr) (c : Nat) (L : List Tk) (w : World) (hl : L.length ≤ 10000) (hj : (joinT L).length ≤ 100000) (hr : TRow w A L) :
    Calls Tryd.prog 15 #[.slice A L.length c] w fun e w' => e = .returned (.string (bts (joinT L))) ∧ Below w.heap.size w w' := by
  have HR := Lib.hid hr
  have HJl := Lib.hid hj
  clear hr hj
  obtain ⟨i, hi, hz, hs, hb⟩ := info_parts infoStr
  go_enter Tryd.func15, Tryd.ntmps15
  go_wp2_with (at_make; refine wpList_make_full _ rfl _ _ 53 rfl w.heap.size 9 i (.string noText) 1 Tryd.underlying53 hi hz hs .i64 .i64 _ _ L.length rfl rfl rfl rfl ?b1 ?b2 ?b3 ?_)
  case b1 => rw [hb]; omega
  case b2 => unfold maxLen; omega
  case b3 => omega
  intro w1 ho hg
  clear hi hz hs hb
  rw [toList_madeCells_one] at ho
  have HB1 := Lib.hid ((Below.refl w.heap.size w).grown hg (Nat.le_refl _) (by simp))
  have HO1 := Lib.hid (show Own w1 w.heap.size 9 ((L.take 0).map (fun x => Value.string (bts x.2.1)) ++ List.replicate (L.length - 0) (.string noText)) by simpa using Own.of_row ho rfl)
  clear ho hg
  go_wp2_with fail
  go_loopw [11] (fun i wr => ∃ k : Nat, k ≤ L.length ∧ i = .int .i64 k ∧ Hid (Own wr w.heap.size 9 ((L.take k).map (fun x => Value.string (bts x.2.1)) ++ List.replicate (L.length - k) (.string noText))) ∧ Hid (Below w.heap.size w wr)) (fun i _ => L.length - (intOf i).toNat)
  case atStart => exact ⟨0, Nat.zero_le _, rfl, HO1.out, HB1.out⟩
  case round =>
    obtain ⟨k, hk, rfl, HO, HB⟩ := hrel
    by_cases hlt : k < L.length
    · obtain ⟨b, o, rfl, hbw, c0, c1, c2⟩ := HR.out.at_ hlt
      have HS := Lib.hid (mid_set (fun x : Tk => Value.string (bts x.2.1)) (.string noText) hlt)
      generalize L[k] = x at c0 c1 c2 HS
      obtain ⟨q, t, a⟩ := x
      simp only at c0 c1 c2 HS
      obtain ⟨T, hT⟩ : ∃ T, bts t = T := ⟨_, rfl⟩
      rw [hT] at c1 HS
      clear hT
      have d0 := (HB.out.cell (p := ⟨b, o + k * 3, none⟩) hbw).trans c0
      have d1 := (HB.out.cell (p := ⟨b, o + k * 3 + 1, none⟩) hbw).trans c1
      have d2 := (HB.out.cell (p := ⟨b, o + k * 3 + 2, none⟩) hbw).trans c2
      have q0 := (HO.out.cell k).trans (mid_at _ _ hlt)
      have q1 := HO.out.frozen k
      have q2 := HO.out.lt
      have hqb := World.block_lt_of_cell? wr _ d0
      clear c0 c1 c2
      go_wp2
      go_roundw
      case rel => exact ⟨k + 1, by omega, by go_num, HS.out ▸ ((HO.out.set k (.string T)).alloc _), (HB.out.setCell (p := ⟨w.heap.size, k, none⟩) (Nat.le_refl _) _).alloc (by have := HB.out.size; simp; omega) _⟩
      case measure => simp [intOf]; omega
    · have hkl : k = L.length := by omega
      subst hkl
      have HQ := HO.out
      simp only [List.take_length, Nat.sub_self, List.replicate_zero, List.append_nil] at HQ
      have e1 : (L.map fun x : Tk => bts x.2.1).map (·.data.toList) = L.map fun x => x.2.1 := by simp
      have hj := Tryd.strings_Join w.heap.size 0 L.length (L.map fun x : Tk => bts x.2.1) ⟨#[32]⟩ wr (own_texts HQ) HQ.lt (by simp; omega) (by simp) (by rw [e1]; exact Nat.le_trans HJl.out (by omega))
      rw [List.length_map, e1] at hj
      have HJ := Lib.hid hj
      clear hj HQ e1
      go_wp2_with fail
      refine HJ.out.mono ?_
      rintro e w2 ⟨rfl, b2⟩
      have B2 := Lib.hid (HB.out.trans (b2.mono HB.out.size))
      clear b2 HO HJ
      go_wp2
      go_ret
      exact ⟨rfl, B2.out⟩

/-- the chapter's example, as its tokens. -/
def exL : List Tk := [(2, [112], 0), (5, [40], 1), (3, [88], 2), (5, [41], 3), (5, [58, 45], 4), (2, [113], 6), (5, [40], 7), (3, [88], 8), (5, [41], 9), (5, [46], 10)]
set_option maxRecDepth 100000 in
theorem ex_lex : lexA kindW 0 [112, 40, 88, 41, 58, 45, 113, 40, 88, 41, 46, 37, 120] = (exL, none) := by decide +kernel
theorem ex_join : joinT exL = [112, 32, 40, 32, 88, 32, 41, 32, 58, 45, 32, 113, 32, 40, 32, 88, 32, 41, 32, 46] := by decide +kernel

set_option maxRecDepth 100000 in
set_option maxHeartbeats 1000000 in
theorem alive_any (w : World) (hL : Lays w) : Calls Tryd.prog 7 #[] w fun e w' => e = .returned (.bool true) ∧ Below w.heap.size w w' := by
  have HLi := Lib.hid (List_any ⟨#[112, 40, 88, 41, 58, 45, 113, 40, 88, 41, 46, 37, 120]⟩ w (by unfold maxLen; decide) hL)
  clear hL
  go_enter Tryd.func7, Tryd.ntmps7
  go_wp2_with fail
  refine HLi.out.mono ?_
  rintro e w1 h1
  unfold LiPost at h1
  rw [if_neg (by decide)] at h1
  have hex : lexA kindW 0 (⟨#[112, 40, 88, 41, 58, 45, 113, 40, 88, 41, 46, 37, 120]⟩ : ByteArray).data.toList = (exL, none) := ex_lex
  rw [hex] at h1
  simp only at h1
  obtain ⟨A, c, rfl, hA, hr, b1⟩ := h1
  obtain ⟨b, o, rfl, hbw, c0, c1, c2⟩ := hr.at_ (k := 4) (by decide)
  have HJ := Lib.hid (Join_any (some ⟨b, o, none⟩) c exL w1 (by decide) (by rw [ex_join]; decide) hr)
  rw [ex_join] at HJ
  have B1 := Lib.hid b1
  have hd0 : w1.cell? ⟨b, o + 12, none⟩ = some (.int .i64 5) := c0
  have hd1 : w1.cell? ⟨b, o + 13, none⟩ = some (.string ⟨#[58, 45]⟩) := c1
  have hd2 : w1.cell? ⟨b, o + 14, none⟩ = some (.int .i64 4) := c2
  have k1 : ∀ w, (binOp .eql 25 .nilIface .nilIface).run Tryd.prog w = .ok (.bool true) w := fun w => by kernel_rfl
  clear hr b1 c0 c1 c2 hex HLi
  go_wp2_with fail
  refine HJ.out.mono ?_
  rintro e w2 ⟨rfl, b2⟩
  have B2 := Lib.hid (B1.out.trans (b2.mono B1.out.size))
  have d0 := (b2.cell (p := ⟨b, o + 12, none⟩) hbw).trans hd0
  have d1 := (b2.cell (p := ⟨b, o + 13, none⟩) hbw).trans hd1
  have d2 := (b2.cell (p := ⟨b, o + 14, none⟩) hbw).trans hd2
  clear hd0 hd1 hd2 b2 HJ
  go_wp2
  go_ret
  exact ⟨rfl, B2.out⟩
end Go.Proofs.YtgjcaadgkeebpaaDoor
