/- TuplePicks' walk: the law's own steps, for every tuple, any columns and any number of workers. Conditions: the library's table; texts within the form's reach; that the chapter's example is so (proved beside). -/
import Derived.Test.YteamogdbhoajkaaDoorTupT
import Derived.Test.YteamogdbhoajkaaDoorTupU
namespace Go.Proofs.YteamogdbhoajkaaDoor
open Go.RowKit Go.Deep

set_option maxRecDepth 100000 in
/-- 'append(api.Tuple{}, t...)'. -/
theorem append_lit (w : World) {ops : Array Oper} {rest : List Oper} {o : Oper} {a : Act} {Q : Exit → Act → World → Prop}
    (hg : o.guard = none) (s x : Operand) (hop : o.op = Op.call { callee := Callee.builtin Builtin.append, args := #[s, x], argTypes := #[23, 23] })
    (hs : a.eval s = .slice (some ⟨w.heap.size, 0, none⟩) 0 0) (A : Option Addr) (c : Nat) (l : List V3) (hx : a.eval x = .slice A l.length c)
    (hn : A = none → c = 0) (hr : Row w A l) (hsz : l.length ≤ 1000)
    (hK : ∀ A' c' w', w'.ownsRow w.heap.size 30 3 (.slice A' l.length c') l.length (flat l) → (A' = none → c' = 0) → Below w.heap.size w w' → wpList Tryd.prog ops Q rest (a.put o.dst (.slice A' l.length c')) w') :
    wpList Tryd.prog ops Q (o :: rest) a (w.alloc (.cells #[] 30)) := by
  have B0 : Below w.heap.size w (w.alloc (.cells #[] 30)) := (Below.refl _ _).alloc (Nat.le_refl _) _
  refine appendT _ hg s x hop w.heap.size [] _ hs (own_lit w) A c l hx hn (hr.below B0) (by simp; omega) (by simp) ?_
  intro A' c' w' ho hn' hb
  have e1 : ([] : List V3).length + l.length = l.length := by simp
  rw [e1] at ho ⊢
  rw [List.nil_append] at ho
  exact hK A' c' w' ho hn' (B0.trans hb)

set_option maxRecDepth 100000 in
set_option maxHeartbeats 2000000 in
theorem picks_walk (hal : AliveOk) (A : Option Addr) (c : Nat) (l : List V3) (C : Option Addr) (cc : Nat) (cs : List Int) (wk : Int) (hl : l.length ≤ maxLen) (hcl : cs.length ≤ maxLen) (hn : A = none → c = 0) (hi : Inb l) (w : World) (hT : Tab w) (hr : Row w A l) (hc : Cols w C cs) :
    Calls Tryd.prog 4 #[.slice A l.length c, .slice C cs.length cc, .int .i64 wk] w fun e w' => e = .returned (.bool true) ∧ Below w.heap.size w w' := by
  have HN := Lib.hid hn
  have HI := Lib.hid hi
  have HT := Lib.hid hT
  have HR := Lib.hid hr
  have HC := Lib.hid hc
  have HL := Lib.hid hl
  have HAL := Lib.hid hal
  unfold maxLen at hcl
  clear hn hi hT hr hal hl hc
  go_enter Tryd.func4, Tryd.ntmps4
  go_wp2_with fail
  refine (HAL.out w HT.out).mono ?_
  rintro e w1 ⟨rfl, b1⟩
  have B1 := Lib.hid b1
  have BA := Lib.hid (b1.alloc b1.size (.cells #[.slice A l.length c] 23))
  have R1 := Lib.hid (HR.out.below BA.out)
  clear b1
  go_wp2_with fail
  refine (Long1 A c l _ _ (by simp) (by go_simp) R1.out HI.out HL.out).mono ?_
  rintro e w2 ⟨r, rfl, hsm, b2⟩
  have B2 := Lib.hid (BA.out.trans (b2.mono BA.out.size))
  have R2 := Lib.hid (HR.out.below B2.out)
  clear b2 R1
  cases r with
  | true =>
    clear hsm
    go_wp2
    go_ret
    exact ⟨rfl, B2.out⟩
  | false =>
    obtain ⟨h50, hsh⟩ := hsm rfl (A, c, l) (by simp)
    have h50 : l.length ≤ 50 := h50
    have HSH : Hid (Short l) := hsh
    clear hsm hsh
    by_cases hc50 : (50 : Int) < (cs.length : Int)
    · go_wp2
      go_ret
      exact ⟨rfl, B2.out⟩
    · have HC50 := Lib.hid (show cs.length ≤ 50 by omega)
      go_wp2_with (at_builtin; refine append_lit w2 rfl (.tmp 26) (.tmp 27) rfl rfl A c l rfl HN.out R2.out (by omega) ?_)
      intro A1 c1 w3 ho1 hn1 b3
      have B3 := Lib.hid (B2.out.trans (b3.mono B2.out.size))
      have RO3 := Lib.hid (Row.own ho1).2.2
      clear ho1 b3 R2 hn1
      go_wp2_with fail
      refine (Pick_any A1 c1 l C cc cs HC50.out HL.out _ RO3.out (HC.out.below B3.out)).mono ?_
      rintro e w4 ⟨A2, c2, rfl, r4, b4⟩
      have B4 := Lib.hid (B3.out.trans (b4.mono B3.out.size))
      have RO4 := Lib.hid (RO3.out.below b4)
      have RA4 := Lib.hid r4
      clear b4 r4 RO3
      go_wp2_with fail
      refine (refPick_post A c l C cc cs HC50.out HL.out _ (HR.out.below B4.out) (HC.out.below B4.out)).mono ?_
      rintro e w5 ⟨A3, c3, rfl, r5, b5⟩
      have B5 := Lib.hid (B4.out.trans (b5.mono B4.out.size))
      have RO5 := Lib.hid (RO4.out.below b5)
      have RA5 := Lib.hid (RA4.out.below b5)
      have RB5 := Lib.hid r5
      clear b5 r5 RO4 RA4
      go_wp2_with fail
      refine (Shard_any A1 c1 l wk C cc cs HC50.out HL.out HSH.out _ (HT.out.below B5.out) RO5.out (HC.out.below B5.out)).mono ?_
      rintro e w6 ⟨rfl, b6⟩
      have B6 := Lib.hid (B5.out.trans (b6.mono B5.out.size))
      have RO6 := Lib.hid (RO5.out.below b6)
      have RA6 := Lib.hid (RA5.out.below b6)
      have RB6 := Lib.hid (RB5.out.below b6)
      clear b6 RO5 RA5 RB5
      go_wp2_with fail
      refine (refShard_any A c l wk C cc cs HC50.out HL.out HSH.out _ (HR.out.below B6.out) (HC.out.below B6.out)).mono ?_
      rintro e w7 ⟨rfl, b7⟩
      have B7 := Lib.hid (B6.out.trans (b7.mono B6.out.size))
      have RO7 := Lib.hid (RO6.out.below b7)
      have RA7 := Lib.hid (RA6.out.below b7)
      have RB7 := Lib.hid (RB6.out.below b7)
      clear b7 RO6 RA6 RB6
      have HPL := Lib.hid (pickR_len l cs HC50.out)
      generalize (pickR l cs).2 = pe
      generalize (shardT l wk cs).1 = sv
      generalize (shardT l wk cs).2 = se
      generalize (pickR l cs).1 = pl at RA7 RB7 HPL
      go_wp2_with fail
      refine (Num_any pe _).mono ?_
      rintro e w8 ⟨rfl, rfl⟩
      go_wp2_with fail
      refine (Same_any A2 A3 c2 c3 pl (by have := HPL.out; unfold maxLen; omega) _ RA7.out RB7.out).mono ?_
      rintro e w8 ⟨rfl, b8⟩
      have B8 := Lib.hid (B7.out.trans (b8.mono B7.out.size))
      have RO8 := Lib.hid (RO7.out.below b8)
      clear b8 RO7 RA7 RB7
      go_wp2_with fail
      refine (Num_any se _).mono ?_
      rintro e w9 ⟨rfl, rfl⟩
      go_wp2_with fail
      refine (Same_any A1 A c1 c l HL.out _ RO8.out (HR.out.below B8.out)).mono ?_
      rintro e wa ⟨rfl, ba⟩
      have Ba := Lib.hid (B8.out.trans (ba.mono B8.out.size))
      clear ba
      go_wp2
      go_ret
      exact ⟨rfl, Ba.out⟩
end Go.Proofs.YteamogdbhoajkaaDoor
