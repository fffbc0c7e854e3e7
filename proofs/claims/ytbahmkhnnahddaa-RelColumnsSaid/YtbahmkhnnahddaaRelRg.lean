/- The document's relations: Minus, Union. Conditions: at most 2000 tuples together. -/
import Derived.Test.YtbahmkhnnahddaaRelRe
import Derived.Test.YtbahmkhnnahddaaRelW
namespace Go.Proofs.Ytbahmkhnnahddaa
open Go.RowKit Go.Deep Go.Shelf

/-- two boxes and the result's: what the loops of Union and Minus keep. -/
def AccI (S : List Nat) (w : World) (a a' : Int) (B : Value) (L : List (List V3)) (wr : World) : Prop :=
  ∃ A c nn, Own wr w.heap.size 33 [.int .i64 a, .slice A nn c] ∧ RefR (w.heap.size :: (w.heap.size + 1) :: (w.heap.size + 2) :: S) wr a (rv3 a A nn c) L ∧ Own wr (w.heap.size + 1) 33 [.int .i64 a', B] ∧ Own wr (w.heap.size + 2) 33 [.int .i64 0, .slice none 0 0] ∧ Below w.heap.size w wr
abbrev accW (w : World) (a a' : Int) (A B : Value) : World := ((w.alloc (.cells #[.int .i64 a, A] 33)).alloc (.cells #[.int .i64 a', B] 33)).alloc (.cells #[.int .i64 0, .slice none 0 0] 33)
theorem acc_start {S : List Nat} {w : World} {a a' : Int} {A : Option Addr} {c nn : Nat} {B : Value} {L : List (List V3)} (h : RefR S w a (rv3 a A nn c) L) : AccI S w a a' B L (accW w a a' (.slice A nn c) B) := by
  have h1 : Own (w.alloc (.cells #[.int .i64 a, .slice A nn c] 33)) w.heap.size 33 [.int .i64 a, .slice A nn c] := heap_alloc_new w _
  have h2 := heap_alloc_new (w.alloc (.cells #[.int .i64 a, .slice A nn c] 33)) (.cells #[.int .i64 a', B] 33)
  have h3 := heap_alloc_new ((w.alloc (.cells #[.int .i64 a, .slice A nn c] 33)).alloc (.cells #[.int .i64 a', B] 33)) (.cells #[.int .i64 0, .slice none 0 0] 33)
  rw [World.size_alloc] at h2
  rw [World.size_alloc, World.size_alloc] at h3
  have hb : Below w.heap.size w (accW w a a' (.slice A nn c) B) := ((((Below.refl _ w).alloc (Nat.le_refl _) _).alloc (by simp) _).alloc (by simp; omega) _)
  exact ⟨A, c, nn, (h1.alloc _).alloc _, h.kept (Kept.of S hb) (fun k hk => by
    simp only [List.mem_cons] at hk
    rcases hk with rfl | rfl | rfl | hk
    · exact .inr (Nat.le_refl _)
    · exact .inr (Nat.le_succ _)
    · exact .inr (Nat.le_add_right _ _)
    · exact .inl hk), Own.alloc h2 _, h3, hb⟩
theorem acc_next {S : List Nat} {w wr w2 : World} {a a' : Int} {B : Value} {L L' : List (List V3)} {A : Option Addr} {c nn : Nat} (h : AccI S w a a' B L wr) (hb : Below wr.heap.size wr w2) (hR : RefR (w.heap.size :: (w.heap.size + 1) :: (w.heap.size + 2) :: S) w2 a (rv3 a A nn c) L') :
    AccI S w a a' B L' ((w2.setCell ⟨w.heap.size, 0, none⟩ (.int .i64 a)).setCell ⟨w.heap.size, 1, none⟩ (.slice A nn c)) := by
  obtain ⟨A0, c0, n0, h1, _, h3, h4, h5⟩ := h
  have ks : Kept [w.heap.size] w2 ((w2.setCell ⟨w.heap.size, 0, none⟩ (.int .i64 a)).setCell ⟨w.heap.size, 1, none⟩ (.slice A nn c)) := ((Kept.refl _ w2).setCell (.inl (by simp)) _).setCell (.inl (by simp)) _
  exact ⟨A, c, nn, (h1.below hb).two, hR.kept (ks.more (fun k hk => by simp only [List.mem_singleton] at hk; simp [hk])) (Sub.refl _ _), ks.own (h3.below hb) (by simp), ks.own (h4.below hb) (by simp), ((h5.trans (hb.mono h5.size)).setCell (by simp) _).setCell (by simp) _⟩
theorem acc_sub {S : List Nat} {w wr W : World} {a a' : Int} {B : Value} {L : List (List V3)} (h : AccI S w a a' B L wr) (hS : ∀ k ∈ S, k < w.heap.size) (hb : Below wr.heap.size wr W) : ∀ k ∈ w.heap.size :: (w.heap.size + 1) :: (w.heap.size + 2) :: S, k < W.heap.size := by
  obtain ⟨A0, c0, n0, h1, _, h3, h4, h5⟩ := h
  have := h4.lt
  have := hb.size
  intro k hk
  simp only [List.mem_cons] at hk
  rcases hk with rfl | rfl | rfl | hk
  · omega
  · omega
  · omega
  · have := hS k hk; omega
theorem acc_done {S : List Nat} {w wr : World} {a : Int} {L : List (List V3)} {A : Option Addr} {c nn : Nat} (h2 : RefR (w.heap.size :: (w.heap.size + 1) :: (w.heap.size + 2) :: S) wr a (rv3 a A nn c) L) (h4 : Own wr (w.heap.size + 2) 33 [.int .i64 0, .slice none 0 0]) (h5 : Below w.heap.size w wr) :
    Own ((wr.setCell ⟨w.heap.size + 2, 0, none⟩ (.int .i64 a)).setCell ⟨w.heap.size + 2, 1, none⟩ (.slice A nn c)) (w.heap.size + 2) 33 [.int .i64 a, .slice A nn c] ∧ RefR S ((wr.setCell ⟨w.heap.size + 2, 0, none⟩ (.int .i64 a)).setCell ⟨w.heap.size + 2, 1, none⟩ (.slice A nn c)) a (rv3 a A nn c) L ∧
      Below w.heap.size w ((wr.setCell ⟨w.heap.size + 2, 0, none⟩ (.int .i64 a)).setCell ⟨w.heap.size + 2, 1, none⟩ (.slice A nn c)) := by
  have ks : Kept [w.heap.size + 2] wr ((wr.setCell ⟨w.heap.size + 2, 0, none⟩ (.int .i64 a)).setCell ⟨w.heap.size + 2, 1, none⟩ (.slice A nn c)) := ((Kept.refl _ wr).setCell (.inl (by simp)) _).setCell (.inl (by simp)) _
  exact ⟨h4.two, h2.kept (ks.more (fun k hk => by simp only [List.mem_singleton] at hk; simp [hk])) (fun k hk => .inl (by simp [hk])), (h5.setCell (by simp) _).setCell (by simp) _⟩

theorem fold_take {α β : Type} (f : α → β → α) (L : α) (xs : List β) (k : Nat) (hk : k < xs.length) : (xs.take (k + 1)).foldl f L = f ((xs.take k).foldl f L) xs[k] := by
  rw [List.take_succ_eq_append_getElem hk, List.foldl_append]
  rfl
theorem delF_le (xs L : List (List V3)) : (xs.foldl delT L).length ≤ L.length ∧ ∀ l ∈ xs.foldl delT L, l ∈ L := by
  induction xs generalizing L with
  | nil => exact ⟨Nat.le_refl _, fun _ h => h⟩
  | cons x r ih =>
    obtain ⟨h1, h2⟩ := ih (delT L x)
    refine ⟨Nat.le_trans h1 (List.length_filter_le _ _), fun l hl => (List.mem_filter.1 (h2 l hl)).1⟩
theorem putF_ok (xs L : List (List V3)) (h : LOk L) (hx : ∀ x ∈ xs, x.length ≤ 100) : LOk (xs.foldl putT L) ∧ (xs.foldl putT L).length ≤ L.length + xs.length := by
  induction xs generalizing L with
  | nil => exact ⟨h, by simp⟩
  | cons x r ih =>
    obtain ⟨h1, h2⟩ := ih (putT L x) (h.put (hx x (by simp))) (fun y hy => hx y (by simp [hy]))
    refine ⟨h1, ?_⟩
    have := putT_len L x
    simp only [List.foldl_cons, List.length_cons]
    omega

set_option maxRecDepth 100000 in
set_option maxHeartbeats 2000000 in
theorem refMinus_any (S : List Nat) (a a' : Int) (m m' : Value) (L M : List (List V3)) (w : World) (hS : ∀ k ∈ S, k < w.heap.size) (hm : RefR S w a m L) (hm' : RefR [] w a' m' M) (hf : ∀ l ∈ L, l.length ≤ 100) (hf' : ∀ l ∈ M, l.length ≤ 100) (hn : L.length ≤ 4000) (hn' : M.length ≤ 4000) :
    Calls Try.prog 28 #[m, m'] w fun e w' => RefGot S w a (M.foldl delT L) e w' := by
  obtain ⟨us', hm', rfl⟩ := hm'
  obtain ⟨A', c', rfl, hA', hc', hl', hun', _⟩ := hm'
  have hm0 := hm
  obtain ⟨us, ⟨A, c, rfl, _⟩, _⟩ := hm0
  have HST := Lib.hid (acc_start (a' := a') (B := .slice A' us'.length c') hm)
  have HL := Lib.hid hl'
  have HSS := Lib.hid hS
  have HF := Lib.hid hf
  have HF' := Lib.hid hf'
  have hn' : us'.length ≤ 4000 := by simpa using hn'
  have mixed : Try.prog.follows .mixedOrders = true := by kernel_rfl
  clear hl' hS hf hf' hun' hA' hm
  go_enter Try.func28, Try.ntmps28
  go_wp2_with fail
  go_loopw [5] (fun ix wr => ∃ k : Nat, k ≤ us'.length ∧ ix = .int .i64 k ∧ Hid (AccI S w a a' (.slice A' us'.length c') ((lists (us'.take k)).foldl delT L) wr)) (fun ix _ => us'.length - (intOf ix).toNat)
  case atStart => exact ⟨0, Nat.zero_le _, rfl, HST.out⟩
  case round =>
    obtain ⟨k, hk, rfl, HI⟩ := hrel
    obtain ⟨A0, c0, nn, i1, i2, i3, i4, i5⟩ := HI.out
    have h20 := i1.cell 0
    have h21 := i1.cell 1
    have f20 := i1.frozen 0
    have f21 := i1.frozen 1
    have q2 := i1.lt
    have h30 := i3.cell 0
    have h31 := i3.cell 1
    have q3 := i3.lt
    by_cases hlt : k < us'.length
    · obtain ⟨g, o, rfl, hgw, _, hc1, hr⟩ := HL.out.at_ hlt
      have hc1 := (i5.cell (p := ⟨g, o + k, none⟩) hgw).trans hc1
      have qg : g < wr.heap.size := Nat.lt_of_lt_of_le hgw i5.size
      have hxl := HF'.out us'[k].2.2 (List.mem_map_of_mem (List.getElem_mem hlt))
      have hlf := delF_le (lists (us'.take k)) L
      have hbd : Below wr.heap.size wr wr.drew := (Below.refl _ wr).drew
      have HA := Lib.hid (refDrop_any (w.heap.size :: (w.heap.size + 1) :: (w.heap.size + 2) :: S) a _ _ us'[k] wr.drew (acc_sub HI.out HSS.out hbd) (i2.below hbd) (fun l hl => HF.out l (hlf.2 l hl)) (by omega) ((hr.row.below i5).below hbd) (by unfold maxLen; omega))
      have HN : Hid (∀ w2 A2 c2 n2, Below wr.drew.heap.size wr.drew w2 → RefR (w.heap.size :: (w.heap.size + 1) :: (w.heap.size + 2) :: S) w2 a (rv3 a A2 n2 c2) (delT ((lists (us'.take k)).foldl delT L) us'[k].2.2) → AccI S w a a' (.slice (some ⟨g, o, none⟩) us'.length c') ((lists (us'.take (k + 1))).foldl delT L) ((w2.setCell ⟨w.heap.size, 0, none⟩ (.int .i64 a)).setCell ⟨w.heap.size, 1, none⟩ (.slice A2 n2 c2))) := fun w2 A2 c2 n2 hb hR => by
        have e1 : (lists (us'.take (k + 1))).foldl delT L = delT ((lists (us'.take k)).foldl delT L) us'[k].2.2 := by
          have h1 : k < (lists us').length := by simpa using hlt
          have := fold_take delT L (lists us') k h1
          rw [← List.map_take, ← List.map_take] at this
          rw [this]
          simp
        rw [e1]
        exact acc_next HI.out (hbd.trans hb) hR
      have HO := Lib.hid (fun w2 (hb : Below wr.drew.heap.size wr.drew w2) => i1.below (hbd.trans hb))
      clear hr i1 i2 i3 i4 i5 HI hlf hbd hxl
      generalize us'[k] = x at hc1 HA HN
      obtain ⟨X, xc, xl⟩ := x
      change wr.cell? ⟨g, o + k, none⟩ = some (.slice X xl.length xc) at hc1
      simp only at HA HN
      generalize delT ((lists (us'.take k)).foldl delT L) xl = D at HA HN
      go_wp2_with fail
      go_region_with (
         go_at_call 14
         refine HA.out.mono ?_
         rintro e w2 ⟨m2, rfl, hm2, b2⟩
         obtain ⟨us2, ⟨A2, c2, rfl, hA2⟩, hl2⟩ := hm2
         have HQ := Lib.hid (HN.out w2 A2 c2 us2.length b2 ⟨us2, ⟨A2, c2, rfl, hA2⟩, hl2⟩)
         have j6 := HO.out w2 b2
         clear h20 h21 f20 f21 q2 hA2 hl2 b2
         have h20 := j6.cell 0
         have h21 := j6.cell 1
         have f20 := j6.frozen 0
         have f21 := j6.frozen 1
         have q2 := j6.lt
         clear j6)
      all_goals
        go_wp2
        go_roundw
        case rel => exact ⟨k + 1, by omega, by go_num, HQ.out⟩
        case measure => simp [intOf]; omega
    · obtain rfl : k = us'.length := by omega
      rw [List.take_length] at i2
      obtain ⟨hO, hR, hB⟩ := acc_done i2 i4 i5
      have HQ : Hid (RefGot S w a ((lists us').foldl delT L) (.returned (rv3 a A0 nn c0)) _) := ⟨_, rfl, hR, hB⟩
      have HO := Lib.hid hO
      have h40 := i4.cell 0
      have h41 := i4.cell 1
      have f40 := i4.frozen 0
      have f41 := i4.frozen 1
      have q4 := i4.lt
      clear hO hR hB i1 i2 i3 i4 i5 HI
      go_wp2
      refine bodyPost_ret (v := rv3 a A0 nn c0) (by simp [results, Try.results28, go_sem, HO.out.cell 0, HO.out.cell 1]) rfl HQ.out
end Go.Proofs.Ytbahmkhnnahddaa
