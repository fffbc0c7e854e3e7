/-
  DERIVED. GIVEN WITH THE SEED: THE CARDS: each row of YtlfakhjcpdkaiaaGreatDoorRows.lean that lists a variable, with what it lists TIED to the program's text (the seventh form; the later family's looks); each row that meets fmt, with fmt's text TOLD by the authors' own Lean function (tested against real Go, not proved from fmt's source: count such statements apart). THE CARD IS WHAT COUNTS. Prove the row's statement (the work); the ties are given (YtlfakhjcpdkaiaaGreatDoorTie.lean); close each card by the builder's one call (the guide's Derived/Test/ToyasCard.lean, 'card_holds'). Laid BY PROGRAM, IN A SANDBOX (cutbox-door.mjs). By AI agents, Wed Nov 11 2026. No macro, syntax, notation, axiom, sorry.
-/
import Derived.Test.YtlfakhjcpdkaiaaGreatDoorRows
import GoSem.ClaimSeven
namespace Go.Proofs.YtlfakhjcpdkaiaaGreatDoor
namespace Rows

/-- THE TIED CARD OF 'corollarylaw05.TermFormed'. -/
def termFormedCard : Claim7 := { stood := { row := termFormedRow, standIns := [], harness := (true, "4ce689444e2dbc77eb7288c60a93c787a65077872217d396436019ce41e8fcbe"), looks := true }, kinds := [], alts := [], laidByText := true, laidKinds := [.data, .data, .data, .sentinel, .sentinel, .data, .data], laidTests := true, laidLooks := .later }
def TermFormedCardSaid : Prop := Claim7.holds Tryz.pinned (.plain (OpenSpec.ofChange termFormedSpec)) termFormedCard

/-- THE SECOND FORM's CARD OF 'corollarylaw05.TermFormed'. -/
def termFormedUptoCard : Claim7 := { stood := { row := termFormedUptoRow, standIns := [], harness := (true, "4ce689444e2dbc77eb7288c60a93c787a65077872217d396436019ce41e8fcbe"), looks := true }, kinds := [], alts := [], laidByText := true, laidKinds := [.data, .data, .data, .sentinel, .sentinel, .data, .data], laidTests := true, laidLooks := .later }
def TermFormedUptoCardSaid : Prop := Claim7.holds Tryz.pinned (.plain (OpenSpec.upto termFormedSpec)) termFormedUptoCard
end Rows
end Go.Proofs.YtlfakhjcpdkaiaaGreatDoor
