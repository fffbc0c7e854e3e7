/- List, and the document's tokens, with the capacity. Conditions: lex's two tables and strconv's variables as they are laid. -/
import Derived.Test.YtolnikpihedmbaaGreatDoorPbF
import Derived.Test.YtolnikpihedmbaaGreatDoorPbH
import Derived.StillTailTactics
import Derived.RegionIn
set_option linter.unusedVariables false
set_option linter.unusedSimpArgs false
namespace Go.Proofs.YtolnikpihedmbaaGreatDoor
open Go.RowKit Go.Deep Go.Shelf
attribute [local go_sem] Oper.semAt_some

theorem TArr.rowc {e : TypeId} {w : World} {v : Value} {L : List Tk} {G : List Nat} (h : TArr e w v L G) : ∃ A c, v = .slice A L.length c ∧ ((A = none → c = 0) ∧ L.length ≤ c) ∧ TRow w A L := by
  obtain ⟨A, c, hv, h1, h2⟩ := h.row
  refine ⟨A, c, hv, ⟨h1, ?_⟩, h2⟩
  rcases h with ⟨h3, rfl, _⟩ | ⟨g, cap, sp, h3, _, h4, _⟩
  · exact Nat.zero_le _
  · rw [hv] at h3
    injection h3 with _ _ h5
    omega
/-- what List answers. -/
def LiPost (w : World) (s : ByteArray) (e : Ending) (w' : World) : Prop :=
  if 4000 < s.size then e = .returned (.tuple #[.slice none 0 0, .int .i64 4000, eno 3]) ∧ Below w.heap.size w w' else
  match (lexA kindW 0 s.data.toList).2 with
  | some p => e = .returned (.tuple #[.slice none 0 0, .int .i64 (p : Int), eno 2]) ∧ Below w.heap.size w w'
  | none => ∃ A c, e = .returned (.tuple #[.slice A (lexA kindW 0 s.data.toList).1.length c, .int .i64 0, .nilIface]) ∧ ((A = none → c = 0) ∧ (lexA kindW 0 s.data.toList).1.length ≤ c) ∧ TRow w' A (lexA kindW 0 s.data.toList).1 ∧ Below w.heap.size w w'
/-- the boxes and the slice, between two rounds. -/
structure LiI (w : World) (pre : List Tk) (W : World) : Prop where
  o2 : Own W w.heap.size 85 [.slice none 0 0]
  o3 : Own W (w.heap.size + 1) 3 [.int .i64 0]
  o4 : Own W (w.heap.size + 2) 28 [.nilIface]
  o5 : ∃ v G, Own W (w.heap.size + 3) 85 [v] ∧ TArr 113 W v pre G ∧ ∀ g ∈ G, w.heap.size + 3 < g
  low : Below w.heap.size w W
  ne : ∀ x ∈ pre, x.1 ≠ 0
theorem LiI.calm {w : World} {B : Nat} {pre : List Tk} {X Y : World} (h : LiI w pre X) (hc : Calm B X Y) (hB : w.heap.size ≤ B) : LiI w pre Y := by
  obtain ⟨h2, h3, h4, ⟨v, G, h5, ha, hG⟩, h6, h7⟩ := h
  exact ⟨hc.own h2, hc.own h3, hc.own h4, ⟨v, G, hc.own h5, ha.calm hc, hG⟩, Below.calm h6 hc (Nat.le_refl _) hB, h7⟩
/-- the results, once there is no token. -/
structure LiX (w : World) (p : Nat) (W : World) : Prop where
  o2 : Own W w.heap.size 85 [.slice none 0 0]
  o3 : Own W (w.heap.size + 1) 3 [.int .i64 (p : Int)]
  o4 : Own W (w.heap.size + 2) 28 [eno 2]
  low : Below w.heap.size w W
theorem LiX.calm {w : World} {B p : Nat} {X Y : World} (h : LiX w p X) (hc : Calm B X Y) (hB : w.heap.size ≤ B) : LiX w p Y := by
  obtain ⟨h2, h3, h4, h6⟩ := h
  exact ⟨hc.own h2, hc.own h3, hc.own h4, Below.calm h6 hc (Nat.le_refl _) hB⟩

theorem LiI.step {w W w1 : World} {pre : List Tk} {x : Tk} {v : Value} {G : List Nat} {B0 n g cap : Nat} {tmp : Obj} (h : LiI w pre W) (hx : x.1 ≠ 0)
    (hO : Own W (w.heap.size + 3) 85 [v]) (ha : TArr 113 W v pre G) (hG : ∀ k ∈ G, w.heap.size + 3 < k)
    (ho : w1.ownsRow 0 113 3 (.slice (some ⟨g, 0, none⟩) n cap) n (flatT pre ++ tkC x)) (hg : (W.alloc tmp).grownBy w1 v.ownBlock) (hat : (Value.slice (some ⟨g, 0, none⟩) n cap).ownBlock = v.ownBlock ∨ (Value.slice (some ⟨g, 0, none⟩) n cap).ownBlock = some (W.alloc tmp).heap.size) :
    Own w1 (w.heap.size + 3) 85 [v] ∧ KeepsFrom B0 W (w1.setCell ⟨w.heap.size + 3, 0, none⟩ (.slice (some ⟨g, 0, none⟩) n cap)) ∧ Kf [] (w.heap.size + 3) 0 W (w1.setCell ⟨w.heap.size + 3, 0, none⟩ (.slice (some ⟨g, 0, none⟩) n cap)) ∧ LiI w (pre ++ [x]) (w1.setCell ⟨w.heap.size + 3, 0, none⟩ (.slice (some ⟨g, 0, none⟩) n cap)) := by
  obtain ⟨h1, h2, h3, h4, h5, h6, h7⟩ := tk_step (B0 := B0) hO ha hG ho hg hat
  have hn : ∀ j, j < 3 → w.heap.size + j ∉ (w.heap.size + 3) :: G := fun j hj hm => by
    rcases List.mem_cons.1 hm with hm | hm
    · omega
    · have := hG _ hm; omega
  refine ⟨h1, h2, h3, h7.own h.o2 (hn 0 (by omega)), h7.own h.o3 (hn 1 (by omega)), h7.own h.o4 (hn 2 (by omega)), ⟨_, _, h4, h5, fun k hk => by simp only [List.mem_singleton] at hk; omega⟩, h.low.trans (h7.below h.low.size fun k hk => ?_), fun y hy => ?_⟩
  · rcases List.mem_cons.1 hk with rfl | hk
    · omega
    · have := hG _ hk; omega
  · rcases List.mem_append.1 hy with hy | hy
    · exact h.ne y hy
    · simp only [List.mem_singleton] at hy
      subst hy
      exact hx

/-- the three results are stored. -/
theorem li_set {w W : World} {pre : List Tk} (h : LiI w pre W) (v : Value) (n : Int) (r : Value) (B0 : Nat) :
    KeepsFrom B0 W (((W.setCell ⟨w.heap.size, 0, none⟩ v).setCell ⟨w.heap.size + 1, 0, none⟩ (.int .i64 n)).setCell ⟨w.heap.size + 2, 0, none⟩ r) ∧ Kept [w.heap.size, w.heap.size + 1, w.heap.size + 2] W (((W.setCell ⟨w.heap.size, 0, none⟩ v).setCell ⟨w.heap.size + 1, 0, none⟩ (.int .i64 n)).setCell ⟨w.heap.size + 2, 0, none⟩ r) ∧
    Own (((W.setCell ⟨w.heap.size, 0, none⟩ v).setCell ⟨w.heap.size + 1, 0, none⟩ (.int .i64 n)).setCell ⟨w.heap.size + 2, 0, none⟩ r) w.heap.size 85 [v] ∧ Own (((W.setCell ⟨w.heap.size, 0, none⟩ v).setCell ⟨w.heap.size + 1, 0, none⟩ (.int .i64 n)).setCell ⟨w.heap.size + 2, 0, none⟩ r) (w.heap.size + 1) 3 [.int .i64 n] ∧ Own (((W.setCell ⟨w.heap.size, 0, none⟩ v).setCell ⟨w.heap.size + 1, 0, none⟩ (.int .i64 n)).setCell ⟨w.heap.size + 2, 0, none⟩ r) (w.heap.size + 2) 28 [r] ∧ Below w.heap.size w (((W.setCell ⟨w.heap.size, 0, none⟩ v).setCell ⟨w.heap.size + 1, 0, none⟩ (.int .i64 n)).setCell ⟨w.heap.size + 2, 0, none⟩ r) := by
  have ks : ∀ (X : World) (b : Nat) (u : Value), Kept [b] X (X.setCell ⟨b, 0, none⟩ u) := fun X b u => (Kept.refl _ X).setCell (.inl (by simp)) _
  have k1 := ks W w.heap.size v
  have k2 := ks (W.setCell ⟨w.heap.size, 0, none⟩ v) (w.heap.size + 1) (.int .i64 n)
  have k3 := ks ((W.setCell ⟨w.heap.size, 0, none⟩ v).setCell ⟨w.heap.size + 1, 0, none⟩ (.int .i64 n)) (w.heap.size + 2) r
  have hk : Kept [w.heap.size, w.heap.size + 1, w.heap.size + 2] W (((W.setCell ⟨w.heap.size, 0, none⟩ v).setCell ⟨w.heap.size + 1, 0, none⟩ (.int .i64 n)).setCell ⟨w.heap.size + 2, 0, none⟩ r) :=
    (((Kept.refl _ W).setCell (.inl (by simp)) _).setCell (.inl (by simp)) _).setCell (.inl (by simp)) _
  refine ⟨hk.keeps (fun k hm o ho => ?_) _, hk, k3.own (k2.own (h.o2.set 0 v) (by simp)) (by simp), k3.own ((k1.own h.o3 (by simp)).set 0 (.int .i64 n)) (by simp), (k2.own (k1.own h.o4 (by simp)) (by simp)).set 0 r, h.low.trans (hk.below h.low.size fun k hm => ?_)⟩
  · have h2 := h.o2
    have h3 := h.o3
    have h4 := h.o4
    unfold Own at h2 h3 h4
    simp only [List.mem_cons, List.not_mem_nil, or_false] at hm
    rcases hm with rfl | rfl | rfl
    · rw [h2] at ho; cases ho; rfl
    · rw [h3] at ho; cases ho; rfl
    · rw [h4] at ho; cases ho; rfl
  · simp only [List.mem_cons, List.not_mem_nil, or_false] at hm
    omega

set_option maxRecDepth 100000 in
set_option maxHeartbeats 400000 in
theorem List_long (s : ByteArray) (w : World) (hs : s.size ≤ maxLen) (hl : 4000 < s.size) :
    Calls Tryz.prog 25 #[.string s] w fun e w' => LiPost w s e w' := by
  have HQ : Hid (∀ e w', e = .returned (.tuple #[.slice none 0 0, .int .i64 4000, eno 3]) → Below w.heap.size w w' → LiPost w s e w') := fun e w' h1 h2 => by
    unfold LiPost
    rw [if_pos hl]
    exact ⟨h1, h2⟩
  unfold maxLen at hs
  have hli : (4000 : Int) < (s.size : Int) := by omega
  clear hl
  go_enter Tryz.func25, Tryz.ntmps25
  go_wp2
  exact bodyPost_ret (v := .tuple #[.slice none 0 0, .int .i64 4000, eno 3]) (by simp [results, Tryz.results25, go_sem]) rfl (HQ.out _ _ rfl ((((Below.refl _ _).alloc (Nat.le_refl _) _).alloc (by simp) _).alloc (by simp; omega) _))

set_option maxRecDepth 100000 in
set_option maxHeartbeats 2000000 in
theorem List_short (s : ByteArray) (w : World) (hs : s.size ≤ 4000) (hL : Lays w) :
    Calls Tryz.prog 25 #[.string s] w fun e w' => LiPost w s e w' := by
  refine (callsIn_wide (n := 9)).1 ?_
  obtain ⟨i0, hi0, hz0, hzs, hzb⟩ := info_parts infoTk
  have HQe : Hid (∀ p e w', (lexA kindW 0 s.data.toList).2 = some p → e = .returned (.tuple #[.slice none 0 0, .int .i64 (p : Int), eno 2]) → Below w.heap.size w w' → LiPost w s e w') := fun p e w' h h1 h2 => by
    unfold LiPost
    rw [if_neg (by omega), h]
    exact ⟨h1, h2⟩
  have HQn : Hid (∀ A c e w', (lexA kindW 0 s.data.toList).2 = none → e = .returned (.tuple #[.slice A (lexA kindW 0 s.data.toList).1.length c, .int .i64 0, .nilIface]) → ((A = none → c = 0) ∧ (lexA kindW 0 s.data.toList).1.length ≤ c) → TRow w' A (lexA kindW 0 s.data.toList).1 → Below w.heap.size w w' → LiPost w s e w') := fun A c e w' h h1 h2 h3 h4 => by
    unfold LiPost
    rw [if_neg (by omega), h]
    exact ⟨A, c, h1, h2, h3, h4⟩
  have hf8 : Fence.wide.fn 25 := trivial
  have hf13 : Fence.wide.fn 48 := trivial
  have hf19 : Fence.wide.fn 70 := trivial
  have HG := Lib.hid hL.gl
  have HL := Lib.hid hL
  have hB0 : Below w.heap.size w ((((w.alloc (.cells #[.slice none 0 0] 85)).alloc (.cells #[.int .i64 0] 3)).alloc (.cells #[.nilIface] 28)).alloc (.cells #[.slice none 0 0] 85)) := ((((Below.refl _ _).alloc (Nat.le_refl _) _).alloc (by simp) _).alloc (by simp; omega) _).alloc (by simp; omega) _
  have h1 : Own (w.alloc (.cells #[.slice none 0 0] 85)) w.heap.size 85 [.slice none 0 0] := heap_alloc_new _ _
  have h2 := heap_alloc_new (w.alloc (.cells #[.slice none 0 0] 85)) (.cells #[.int .i64 0] 3)
  have h3 := heap_alloc_new ((w.alloc (.cells #[.slice none 0 0] 85)).alloc (.cells #[.int .i64 0] 3)) (.cells #[.nilIface] 28)
  have h4 := heap_alloc_new (((w.alloc (.cells #[.slice none 0 0] 85)).alloc (.cells #[.int .i64 0] 3)).alloc (.cells #[.nilIface] 28)) (.cells #[.slice none 0 0] 85)
  simp only [World.size_alloc] at h2 h3 h4
  have h2' : Own ((w.alloc (.cells #[.slice none 0 0] 85)).alloc (.cells #[.int .i64 0] 3)) (w.heap.size + 1) 3 [.int .i64 0] := h2
  have h3' : Own (((w.alloc (.cells #[.slice none 0 0] 85)).alloc (.cells #[.int .i64 0] 3)).alloc (.cells #[.nilIface] 28)) (w.heap.size + 2) 28 [.nilIface] := h3
  have hI0 : LiI w [] ((((w.alloc (.cells #[.slice none 0 0] 85)).alloc (.cells #[.int .i64 0] 3)).alloc (.cells #[.nilIface] 28)).alloc (.cells #[.slice none 0 0] 85)) :=
    ⟨((h1.alloc _).alloc _).alloc _, (h2'.alloc _).alloc _, h3'.alloc _, ⟨_, [], h4, .inl ⟨rfl, rfl, rfl⟩, fun _ h => by cases h⟩, hB0, fun _ h => by cases h⟩
  obtain ⟨w4, hw4⟩ : ∃ w4, w4 = (((w.alloc (.cells #[.slice none 0 0] 85)).alloc (.cells #[.int .i64 0] 3)).alloc (.cells #[.nilIface] 28)).alloc (.cells #[.slice none 0 0] 85) := ⟨_, rfl⟩
  rw [← hw4] at hI0
  have HW4 := Lib.hid hw4
  have hs4 : w4.heap.size = w.heap.size + 4 := by rw [hw4]; simp
  have hb5 : Below w4.heap.size w4 (w4.alloc (.cells #[.string s] 9)) := (Below.refl _ _).alloc (Nat.le_refl _) _
  have hI5 : LiI w [] (w4.alloc (.cells #[.string s] 9)) := hI0.calm (Calm.of_below w.heap.size hb5) (Nat.le_refl _)
  have hos : Own (w4.alloc (.cells #[.string s] 9)) w4.heap.size 9 [.string s] := heap_alloc_new _ _
  have hs5 : (w4.alloc (.cells #[.string s] 9)).heap.size = w.heap.size + 5 := by rw [World.size_alloc, hs4]
  obtain ⟨w5, hw5⟩ : ∃ w5, w5 = w4.alloc (.cells #[.string s] 9) := ⟨_, rfl⟩
  rw [← hw5] at hI5 hos hs5
  rw [hs4] at hos
  have HO5 : Hid (Own w5 (w.heap.size + 3) 85 [.slice none 0 0]) := by
    have h4' : Own w4 (w.heap.size + 3) 85 [.slice none 0 0] := by rw [hw4]; exact h4
    rw [hw5]
    exact h4'.alloc _
  have HI5 := Lib.hid hI5
  have HOs := Lib.hid hos
  have HS5 := Lib.hid hs5
  have HS4 := Lib.hid hs4
  have HW5 := Lib.hid hw5
  have hlow5 : w.heap.size ≤ w5.heap.size := by omega
  have hsi : (s.size : Int) ≤ 4000 := by omega
  clear hL hB0 h1 h2 h3 h4 h2' h3' hI0 hw4 hs4 hb5 hI5 hos hs5 hw5
  refine callsIn_of_wp_marks Tryz.func25 rfl hf8 ?_ rfl
  simp only [Tryz.ntmps25, List.size_toArray, List.length_cons, List.length_nil, Nat.reduceAdd, Nat.reduceSub, Array.replicate_succ, Array.replicate_zero, List.push_toArray, List.append_toArray, List.nil_append, List.cons_append]
  gi_wp2_with fail
  rw [← HW4.out]
  refine (callsIn_wide.2 (All_any s w4)).mono ?_
  rintro e w6 ⟨rfl, hw6⟩
  rw [← HW5.out] at hw6
  subst hw6
  gi_wp2_with fail
  rw [HS4.out]
  simp only [Nat.add_assoc, Nat.reduceAdd]
  refine' range_law2 (Kp := Kf [] (w.heap.size + 3) 0) (Px := fun pre x _ => (pre ++ [x]) <+: yOf (lexA kindW 0 s.data.toList)) (S := fun xs => xs = yOf (lexA kindW 0 s.data.toList)) (Sp := fun pre => pre <+: yOf (lexA kindW 0 s.data.toList)) (encs := fun x : Tk => #[tkV x, errT x.1]) rfl (by omega) (gf := 70) (lb := #[.pointer (some ⟨w.heap.size + 4, 0, none⟩)]) rfl hf19 (enters_of Tryz.func70 (by kernel_rfl) rfl)
    ?seq (fun h h' => h.trans h') (fun X Y hX hc => Kf.of_calm hc (by have := HS5.out; omega) (by have := HS5.out; omega)) (fun _ => rfl)
    (LiI w) (fun c _ W => c = Code.ret ∧ ∃ p, (lexA kindW 0 s.data.toList).2 = some p ∧ LiX w p W) (fun pre X Y h hc => h.calm hc hlow5) (fun c pre X Y h hc => ⟨h.1, h.2.imp fun p hp => ⟨hp.1, hp.2.calm hc hlow5⟩⟩)
    (fun _ _ _ _ h _ => h) HI5.out (fun x a W => ∃ Bx, w.heap.size + 4 < Bx ∧ Own W Bx 113 (tkC x) ∧ a = { tmps := #[.string s, undef, .pointer (some ⟨w.heap.size, 0, none⟩), .pointer (some ⟨w.heap.size + 1, 0, none⟩), .pointer (some ⟨w.heap.size + 2, 0, none⟩), .pointer (some ⟨w.heap.size + 3, 0, none⟩), .pointer (some ⟨Bx, 0, none⟩), errT x.1, .string s, .int .i64 s.size, .bool (decide ((4000 : Int) < (s.size : Int))), undef, .string s, .func (.func 70) #[] #[.pointer (some ⟨w.heap.size + 4, 0, none⟩)], tkV x, errT x.1, undef, undef, undef, undef, undef, undef, undef, undef, undef, undef], defers := [] }) (fun x a X Y h hc => ?ax) ?assign ?body ?done ?stop
  case ax =>
    obtain ⟨Bx, h1, h2, h3⟩ := h
    exact ⟨Bx, h1, hc.own h2, h3⟩
  case seq =>
    intro l J Jx W hW hJ hJx hY h0
    have hIW := HI5.out.calm (Calm.of_below w.heap.size hW) (Nat.le_refl _)
    have ho5 := HO5.out.below hW
    have hf : footL [] (w.heap.size + 3) 0 W = [w.heap.size + 3] := by
      unfold footL
      rw [ho5.cell 0]
      rfl
    have hoS := HOs.out.below hW
    exact all_in 8 (by omega) l [] (w.heap.size + 3) 0 w.heap.size (w.heap.size + 4) s J Jx W (by unfold maxLen; omega) (by omega) (HL.out.below hIW.low) HG.out (hoS.cell 0) ho5.lt (fun k hk => by
      rw [hf] at hk
      simp only [List.mem_singleton] at hk
      have := ho5.lt
      omega) hJ hJx hY h0
  case assign =>
    intro l x W K hW hK
    gi_wp2
    exact hK _ _ ((Below.refl _ _).alloc (Nat.le_refl _) _) ⟨W.heap.size, by have := HS5.out; omega, heap_alloc_new _ _, rfl⟩
  case body =>
    rintro l pre ⟨q, t, o⟩ a W hI hpre ⟨Bx, hBx, hOx, rfl⟩
    have hmem : ((q, t, o) : Tk) ∈ yOf (lexA kindW 0 s.data.toList) := hpre.subset (by simp)
    have hpl : pre.length ≤ 4001 := by
      have h1 := hpre.length_le
      have h2 := yOf_len 0 s.data.toList
      simp only [List.length_append, List.length_singleton, show s.data.toList.length = s.size by simp] at h1 h2
      omega
    by_cases hq : q = 0
    · obtain ⟨hR, ht⟩ := yOf_err (lexA_kinds 0 s.data.toList) hmem hq
      simp only at hR ht
      subst hq ht
      have HI := Lib.hid hI
      have HR := Lib.hid hR
      have HOx := Lib.hid hOx
      have k1 : ∀ w, (binOp .neq 28 (eno 2) .nilIface).run Tryz.prog w = .ok (.bool true) w := fun w => by kernel_rfl
      have e1 : errT 0 = eno 2 := rfl
      simp only [e1]
      have x2 := hOx.cell 2
      have xq := hOx.lt
      have a2 := hI.o2.cell 0
      have a3 := hI.o3.cell 0
      have a4 := hI.o4.cell 0
      have f2 := hI.o2.frozen 0
      have f3 := hI.o3.frozen 0
      have f4 := hI.o4.frozen 0
      have q2 := hI.o2.lt
      have q3 := hI.o3.lt
      have q4 := hI.o4.lt
      clear hmem hpre hI hR hOx
      have HX := Lib.hid (li_set HI.out (.slice none 0 0) (o : Int) (eno 2) w6.heap.size)
      gi_wp2
      gi_region
      all_goals
        gi_wp2
        obtain ⟨z1, _, z2, z3, z4, z5⟩ := HX.out
        exact ⟨z1.trans ((KeepsOthers.drew _).from _), rfl, o, HR.out, z2.below (Below.refl _ _).drew, z3.below (Below.refl _ _).drew, z4.below (Below.refl _ _).drew, z5.drew⟩
    · have e1 : errT q = .nilIface := by unfold errT; rw [if_neg hq]
      simp only [e1]
      obtain ⟨v, G, hO, ha, hG⟩ := hI.o5
      obtain ⟨A0, c0, rfl, _⟩ := ha.val
      have HI := Lib.hid hI
      have HO := Lib.hid hO
      have HA := Lib.hid ha
      have HGt := Lib.hid hG
      have HQ := Lib.hid hq
      have c5 := hO.cell 0
      have q5 := hO.lt
      have x0 := hOx.cell 0
      have x1 := hOx.cell 1
      have x2 := hOx.cell 2
      have xq := hOx.lt
      have HOw := Lib.hid ((ha.kept ((Kept.refl [] W).alloc (.cells #[.int .i64 (q : Int), .string (bts t), .int .i64 (o : Int)] 113)) (fun _ _ h => by cases h)).owns)
      have HNw : Hid (∀ j u, (tkC (q, t, o))[j]? = some u → (W.alloc (.cells #[.int .i64 (q : Int), .string (bts t), .int .i64 (o : Int)] 113)).cell? ((⟨W.heap.size, 0, none⟩ : Addr).add j) = some u) := fun j u hj => by
        have hv : Own (W.alloc (.cells #[.int .i64 (q : Int), .string (bts t), .int .i64 (o : Int)] 113)) W.heap.size 113 (tkC (q, t, o)) := heap_alloc_new W _
        rw [Addr.add_lit, Nat.zero_add, hv.cell]
        exact hj
      have hb1 : pre.length + 1 ≤ maxLen := by unfold maxLen; omega
      have hb2 : (pre.length + 1) * 32 ≤ 140737488355328 := by omega
      have hone : ∀ u ∈ tkC (q, t, o), u.oneCell' = true := by simp [Value.oneCell']
      clear hmem hpre hI hO ha hG hq hOx
      gi_wp2_with (gi_at_builtin; refine wpListIn_append_own_at _ rfl _ _ 85 rfl 0 113 i0 _ 3 32 Tryz.underlying85 hi0 hz0 hzs hzb rfl (by decide) (.slice A0 pre.length c0) pre.length (flatT pre) rfl HOw.out ⟨W.heap.size, 0, none⟩ 1 1 (tkC (q, t, o)) rfl rfl HNw.out hone hb1 hb2 (Nat.zero_le _) ?_; intro v' w1 ho hg _ hat; obtain ⟨g1, cap1, rfl⟩ := owns_val3 ho; obtain ⟨k1, hst⟩ := HI.out.step (B0 := w6.heap.size) HQ.out HO.out HA.out HGt.out ho hg hat; have HST := Lib.hid hst; have h1 := k1.cell 0; have f1 := k1.frozen 0; have q3 := k1.lt; clear ho hg hat k1 hst)
      exact HST.out
  case done =>
    rintro D ys W hD rfl hI hK
    obtain ⟨hR, hy⟩ := yOf_all hI.ne
    rw [hy] at hI
    obtain ⟨v, G, hO, ha, hG⟩ := hI.o5
    obtain ⟨A0, c0, rfl, hA0, hrow⟩ := ha.rowc
    have a2 := hI.o2.cell 0
    have a3 := hI.o3.cell 0
    have a4 := hI.o4.cell 0
    have a5 := hO.cell 0
    have f2 := hI.o2.frozen 0
    have f3 := hI.o3.frozen 0
    have f4 := hI.o4.frozen 0
    have q2 := hI.o2.lt
    have q3 := hI.o3.lt
    have q4 := hI.o4.lt
    have q5 := hO.lt
    have HI := Lib.hid hI
    have HR := Lib.hid hR
    have HG5 := Lib.hid hG
    have HRow := Lib.hid ha
    have HKD := Lib.hid hK
    have HD := Lib.hid hD
    have HA0 := Lib.hid hA0
    have HNl := Lib.hid (HQn.out A0 c0)
    have HS := Lib.hid (li_set HI.out (.slice A0 (lexA kindW 0 s.data.toList).1.length c0) 0 .nilIface 0)
    clear hI hR hy hO ha hG hrow hK hD hA0
    gi_wp2
    obtain ⟨z1, zk, z2, z3, z4, z5⟩ := HS.out
    have haX := HRow.out.kept zk (fun g hg hm => by
      have := HG5.out g hg
      simp only [List.mem_cons, List.not_mem_nil, or_false] at hm
      omega)
    have hK2 := z1.same D _ (Nat.zero_le _) HKD.out rfl
    generalize ((W.setCell ⟨w.heap.size, 0, none⟩ (.slice A0 (lexA kindW 0 s.data.toList).1.length c0)).setCell ⟨w.heap.size + 1, 0, none⟩ (.int .i64 0)).setCell ⟨w.heap.size + 2, 0, none⟩ .nilIface = WX at *
    have hcm : Calm w6.heap.size WX (WX.putObj D (.deferred none)) := Calm.put _ hK2 rfl HD.out
    refine ⟨by simp, .inl ⟨_, _, rfl, run_takeDeferred hK2, ?_⟩⟩
    obtain ⟨A1, c1, hv, _, hrw⟩ := (haX.calm hcm).rowc
    injection hv with hv1 _ hv2
    subst hv1 hv2
    exact ⟨.tuple #[.slice A0 (lexA kindW 0 s.data.toList).1.length c0, .int .i64 0, .nilIface], (by simp [results, Tryz.results25, go_sem, (hcm.own z2).cell 0, (hcm.own z3).cell 0, (hcm.own z4).cell 0]), HNl.out _ _ HR.out rfl HA0.out hrw (Below.calm z5 hcm (Nat.le_refl _) hlow5)⟩
  case stop =>
    rintro D c pre W hD hpre ⟨rfl, p, hp, hX⟩ hK
    have HX := Lib.hid hX
    have HKD := Lib.hid hK
    have HD := Lib.hid hD
    have HP := Lib.hid (HQe.out p)
    clear hX hK hD hpre
    gi_wp2
    have hcm : Calm w6.heap.size W (W.putObj D (.deferred none)) := Calm.put _ HKD.out rfl HD.out
    refine ⟨by simp, .inl ⟨_, _, rfl, run_takeDeferred HKD.out, ?_⟩⟩
    exact ⟨.tuple #[.slice none 0 0, .int .i64 (p : Int), eno 2], (by simp [results, Tryz.results25, go_sem, (hcm.own HX.out.o2).cell 0, (hcm.own HX.out.o3).cell 0, (hcm.own HX.out.o4).cell 0]), HP.out _ _ hp rfl (Below.calm HX.out.low hcm (Nat.le_refl _) hlow5)⟩
theorem List_any (s : ByteArray) (w : World) (hs : s.size ≤ maxLen) (hL : Lays w) :
    Calls Tryz.prog 25 #[.string s] w fun e w' => LiPost w s e w' := by
  by_cases h : 4000 < s.size
  · exact List_long s w hs h
  · exact List_short s w (by omega) hL

def errV (n : Int) : Value := if n = 0 then .nilIface else eno n
theorem err_eno {n : Int} (h : n ≠ 0) : errV n = eno n := by simp [errV, h]
theorem err0 : errV 0 = .nilIface := by simp [errV]
/-- the tokens, the error's number, the place. -/
def ansOf (s : ByteArray) : List Tk × Int × Int :=
  if 4000 < s.size then ([], 3, 4000) else
  match (lexA kindW 0 s.data.toList).2 with
  | some p => ([], 2, (p : Int))
  | none => ((lexA kindW 0 s.data.toList).1, 0, 0)
def LiU (w : World) (a : List Tk × Int × Int) (e : Ending) (w' : World) : Prop := ∃ A c, e = .returned (.tuple #[.slice A a.1.length c, .int .i64 a.2.2, errV a.2.1]) ∧ a.1.length ≤ c ∧ TRow w' A a.1 ∧ Below w.heap.size w w'
theorem row_nil (w : World) (A : Option Addr) : TRow w A [] := fun h => absurd h (by simp)
theorem ListU_any (s : ByteArray) (w : World) (hs : s.size ≤ maxLen) (hL : Lays w) :
    Calls Tryz.prog 25 #[.string s] w fun e w' => LiU w (ansOf s) e w' :=
  (List_any s w hs hL).mono fun e w' h => by
    unfold LiPost at h
    unfold LiU ansOf
    split at h
    · rename_i hl
      rw [if_pos hl]
      obtain ⟨rfl, hb⟩ := h
      exact ⟨none, 0, rfl, Nat.le_refl _, row_nil _ _, hb⟩
    · rename_i hl
      rw [if_neg hl]
      split at h
      · rename_i p hp
        obtain ⟨rfl, hb⟩ := h
        exact ⟨none, 0, rfl, Nat.le_refl _, row_nil _ _, hb⟩
      · rename_i hp
        obtain ⟨A, c, rfl, hcp, hr, hb⟩ := h
        exact ⟨A, c, rfl, hcp.2, hr, hb⟩

end Go.Proofs.YtolnikpihedmbaaGreatDoor
