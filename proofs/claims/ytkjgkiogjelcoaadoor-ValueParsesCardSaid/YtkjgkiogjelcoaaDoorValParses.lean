/- ValueParses' walk: the law's own steps, for every text and number. Conditions: the library's table and its two sentinel errors. -/
import Derived.Test.YtkjgkiogjelcoaaDoorValParsesA
namespace Go.Proofs.YtkjgkiogjelcoaaDoor
open Go.RowKit

set_option maxHeartbeats 1000000 in
theorem parses_long (s : ByteArray) (h : Int) (w : World) (hT : Tabs w) (h500 : 500 < (s.size : Int)) :
    Calls Tryd.prog 4 #[.string s, .int .u32 h] w fun e w' => e = .returned (.bool true) ∧ Below w.heap.size w w' := by
  have HT := Lib.hid hT
  clear hT
  go_enter Tryd.func4, Tryd.ntmps4
  go_wp2_with fail
  refine (alive_any _ HT.out.1).mono ?_
  rintro e w1 ⟨rfl, B1⟩
  go_wp2
  go_ret
  exact ⟨rfl, B1⟩

set_option maxHeartbeats 400000 in
theorem parses_name (s : ByteArray) (h : Int) (w : World) (hT : Tabs w) (hs : s.size ≤ maxLen) (h500 : (s.size : Int) ≤ 500) (hm : isName s.data.toList = true) :
    Calls Tryd.prog 4 #[.string s, .int .u32 h] w fun e w' => e = .returned (.bool true) ∧ Below w.heap.size w w' := by
  have HT := Lib.hid hT
  clear hT
  have hs2 : s.size ≤ 281474976710656 := by omega
  have HM := Lib.hid hm
  clear hm
  go_enter Tryd.func4, Tryd.ntmps4
  go_wp2_with fail
  refine (alive_any _ HT.out.1).mono ?_
  rintro e w1 ⟨rfl, B1⟩
  go_wp2_with fail
  refine (Parse_name s _ hs HM.out).mono ?_
  rintro e w2 ⟨rfl, b2⟩
  have B2 := B1.trans (b2.mono B1.size)
  have x2 := Box.new w2 2 0 s
  have B2' := B2.alloc (o := .cells #[.int .i64 2, .int .i64 0, .string s] 24) B2.size
  go_wp2_with fail
  refine (refParse_name s _ hs HM.out).mono ?_
  rintro e w3 ⟨rfl, b3⟩
  have x3 := x2.below b3
  have B3 := B2'.trans (b3.mono B2'.size)
  have y3 := Box.new w3 2 0 s
  have B3' := B3.alloc (o := .cells #[.int .i64 2, .int .i64 0, .string s] 24) B3.size
  clear x2 B2 B2'
  obtain ⟨p0, p1, p2, p3⟩ := x3
  have kc := conv_bytes s (w3.alloc (.cells #[.int .i64 2, .int .i64 0, .string s] 24))
  have hcell : ∀ j, j < s.size → (Lib.bytesWorld (w3.alloc (.cells #[.int .i64 2, .int .i64 0, .string s] 24)) 5 s).cell? ⟨w3.heap.size + 1, j, none⟩ = some (.int .u8 (s.data.toList.getD j 0).toNat) := fun j hj => by
    have hb := Lib.bytesWorld_cell (w3.alloc (.cells #[.int .i64 2, .int .i64 0, .string s] 24)) 5 s j hj
    rwa [World.size_alloc] at hb
  have HCELL := Lib.hid hcell
  clear hcell
  go_wp2_with fail
  refine (Mix_any _ s (w3.heap.size + 1) _ _ hs HCELL.out).mono ?_
  rintro e w4 ⟨rfl, rfl⟩
  go_wp2_with fail
  refine (refMix_any _ _ _ hs).mono ?_
  rintro e w5 ⟨rfl, rfl⟩
  go_wp2
  go_ret
  exact ⟨rfl, B3'.trans ((below_bytesM _ _ _).mono B3'.size)⟩

set_option maxHeartbeats 400000 in
theorem parses_num (s : ByteArray) (h : Int) (w : World) (hT : Tabs w) (hs : s.size ≤ maxLen) (h500 : (s.size : Int) ≤ 500) (n : Int) (hm : isName s.data.toList = false) (hp : pv s.data.toList = some n) :
    Calls Tryd.prog 4 #[.string s, .int .u32 h] w fun e w' => e = .returned (.bool true) ∧ Below w.heap.size w w' := by
  have HT := Lib.hid hT
  clear hT
  have hs2 : s.size ≤ 281474976710656 := by omega
  have HM := Lib.hid hm
  clear hm
  have HP := Lib.hid hp
  clear hp
  go_enter Tryd.func4, Tryd.ntmps4
  go_wp2_with fail
  refine (alive_any _ HT.out.1).mono ?_
  rintro e w1 ⟨rfl, B1⟩
  go_wp2_with fail
  refine (Parse_some s _ hs hs2 HM.out n HP.out (HT.out.below B1)).mono ?_
  rintro e w2 ⟨rfl, b2⟩
  have B2 := B1.trans (b2.mono B1.size)
  have x2 := Box.new w2 1 n noText
  have B2' := B2.alloc (o := .cells #[.int .i64 1, .int .i64 n, .string noText] 24) B2.size
  go_wp2_with fail
  refine (refParse_some s _ hs HM.out n HP.out).mono ?_
  rintro e w3 ⟨rfl, b3⟩
  have x3 := x2.below b3
  have B3 := B2'.trans (b3.mono B2'.size)
  have y3 := Box.new w3 1 n noText
  have B3' := B3.alloc (o := .cells #[.int .i64 1, .int .i64 n, .string noText] 24) B3.size
  clear x2 B2 B2'
  obtain ⟨p0, p1, p2, p3⟩ := x3
  have kc := conv_bytes s (w3.alloc (.cells #[.int .i64 1, .int .i64 n, .string noText] 24))
  have hcell : ∀ j, j < s.size → (Lib.bytesWorld (w3.alloc (.cells #[.int .i64 1, .int .i64 n, .string noText] 24)) 5 s).cell? ⟨w3.heap.size + 1, j, none⟩ = some (.int .u8 (s.data.toList.getD j 0).toNat) := fun j hj => by
    have hb := Lib.bytesWorld_cell (w3.alloc (.cells #[.int .i64 1, .int .i64 n, .string noText] 24)) 5 s j hj
    rwa [World.size_alloc] at hb
  have HCELL := Lib.hid hcell
  clear hcell
  go_wp2_with fail
  refine (Mix_any _ s (w3.heap.size + 1) _ _ hs HCELL.out).mono ?_
  rintro e w4 ⟨rfl, rfl⟩
  go_wp2_with fail
  refine (refMix_any _ _ _ hs).mono ?_
  rintro e w5 ⟨rfl, rfl⟩
  go_wp2
  go_ret
  exact ⟨rfl, B3'.trans ((below_bytesM _ _ _).mono B3'.size)⟩

set_option maxHeartbeats 400000 in
theorem parses_none (s : ByteArray) (h : Int) (w : World) (hT : Tabs w) (hs : s.size ≤ maxLen) (h500 : (s.size : Int) ≤ 500) (hm : isName s.data.toList = false) (hp : pv s.data.toList = none) :
    Calls Tryd.prog 4 #[.string s, .int .u32 h] w fun e w' => e = .returned (.bool true) ∧ Below w.heap.size w w' := by
  have HT := Lib.hid hT
  clear hT
  have hs2 : s.size ≤ 281474976710656 := by omega
  have HM := Lib.hid hm
  clear hm
  have HP := Lib.hid hp
  clear hp
  go_enter Tryd.func4, Tryd.ntmps4
  go_wp2_with fail
  refine (alive_any _ HT.out.1).mono ?_
  rintro e w1 ⟨rfl, B1⟩
  go_wp2_with fail
  refine (Parse_none s _ hs hs2 HM.out HP.out (HT.out.below B1)).mono ?_
  rintro e w2 ⟨rfl, b2⟩
  have B2 := B1.trans (b2.mono B1.size)
  have x2 := Box.new w2 0 0 noText
  have B2' := B2.alloc (o := .cells #[.int .i64 0, .int .i64 0, .string noText] 24) B2.size
  go_wp2_with fail
  refine (refParse_none s _ hs HM.out HP.out).mono ?_
  rintro e w3 ⟨rfl, b3⟩
  have x3 := x2.below b3
  have B3 := B2'.trans (b3.mono B2'.size)
  have y3 := Box.new w3 0 0 noText
  have B3' := B3.alloc (o := .cells #[.int .i64 0, .int .i64 0, .string noText] 24) B3.size
  clear x2 B2 B2'
  obtain ⟨p0, p1, p2, p3⟩ := x3
  have kc := conv_bytes s (w3.alloc (.cells #[.int .i64 0, .int .i64 0, .string noText] 24))
  have hcell : ∀ j, j < s.size → (Lib.bytesWorld (w3.alloc (.cells #[.int .i64 0, .int .i64 0, .string noText] 24)) 5 s).cell? ⟨w3.heap.size + 1, j, none⟩ = some (.int .u8 (s.data.toList.getD j 0).toNat) := fun j hj => by
    have hb := Lib.bytesWorld_cell (w3.alloc (.cells #[.int .i64 0, .int .i64 0, .string noText] 24)) 5 s j hj
    rwa [World.size_alloc] at hb
  have HCELL := Lib.hid hcell
  clear hcell
  go_wp2_with fail
  refine (Is_eno 2 2 _ rfl true rfl).mono ?_
  rintro e w3' ⟨rfl, rfl⟩
  go_wp2_with fail
  refine (Mix_any _ s (w3.heap.size + 1) _ _ hs HCELL.out).mono ?_
  rintro e w4 ⟨rfl, rfl⟩
  go_wp2_with fail
  refine (refMix_any _ _ _ hs).mono ?_
  rintro e w5 ⟨rfl, rfl⟩
  go_wp2
  go_ret
  exact ⟨rfl, B3'.trans ((below_bytesM _ _ _).mono B3'.size)⟩

theorem parses_walk (s : ByteArray) (h : Int) (w : World) (hT : Tabs w) (hs : s.size ≤ maxLen) :
    Calls Tryd.prog 4 #[.string s, .int .u32 h] w fun e w' => e = .returned (.bool true) ∧ Below w.heap.size w w' := by
  by_cases h500 : (s.size : Int) ≤ 500
  · cases hm : isName s.data.toList with
    | true => exact parses_name s h w hT hs h500 hm
    | false =>
      cases hp : pv s.data.toList with
      | some n => exact parses_num s h w hT hs h500 n hm hp
      | none => exact parses_none s h w hT hs h500 hm hp
  · exact parses_long s h w hT (by omega)

end Go.Proofs.YtkjgkiogjelcoaaDoor
