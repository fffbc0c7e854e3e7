/- Comparing texts and values: cmp.Compare at strings, cmp.Or at three numbers, value.Compare, corollaryref01.Less. Conditions: none. -/
import Derived.Test.YtlfakhjcpdkaiaaGreatDoorValSmall
import Derived.StillTailTactics
import Derived.Lib.Hide
import Derived.Handy
namespace Go.Proofs.YtlfakhjcpdkaiaaGreatDoor
open Go.RowKit

/-- three ways, of texts by their bytes. -/
def cmpS (a b : ByteArray) : Int := if Op.bytesLess a.toList b.toList then -1 else if (!a.toList == b.toList) = true then 1 else 0

/-- the first of three that is not 0. -/
def or3 (a b c : Int) : Int := if (a != 0) = true then a else if (b != 0) = true then b else c

/-- a value's order, as the document has it for arbitrary values. -/
def cmpV (k n : Int) (s : ByteArray) (k' n' : Int) (s' : ByteArray) : Int := or3 (cmpI k k') (cmpI n n') (cmpS s s')

theorem below_two (w : World) (o p : Obj) : Below w.heap.size w ((w.alloc o).alloc p).drew :=
  (((Below.refl _ _).alloc (Nat.le_refl _) _).alloc (by simp) _).drew

end Go.Proofs.YtlfakhjcpdkaiaaGreatDoor
