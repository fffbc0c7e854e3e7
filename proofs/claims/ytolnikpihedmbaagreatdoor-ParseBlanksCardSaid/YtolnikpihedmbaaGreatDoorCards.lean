/-
  DERIVED. GIVEN WITH THE SEED: THE CARDS: each row of YtolnikpihedmbaaGreatDoorRows.lean that lists a variable, with what it lists TIED to the program's text (the seventh form; the later family's looks); each row that meets fmt, with fmt's text TOLD by the authors' own Lean function (tested against real Go, not proved from fmt's source: count such statements apart). THE CARD IS WHAT COUNTS. Prove the row's statement (the work); the ties are given (YtolnikpihedmbaaGreatDoorTie.lean); close each card by the builder's one call (the guide's Derived/Test/ToyasCard.lean, 'card_holds'). Laid BY PROGRAM, IN A SANDBOX (cutbox-door.mjs). By AI agents, Wed Nov 11 2026. No macro, syntax, notation, axiom, sorry.
-/
import Derived.Test.YtolnikpihedmbaaGreatDoorRows
import GoSem.ClaimSeven
namespace Go.Proofs.YtolnikpihedmbaaGreatDoor
namespace Rows

/-- THE TIED CARD OF 'corollarylaw06.ParseFormed'. -/
def parseFormedCard : Claim7 := { stood := { row := parseFormedRow, standIns := [], harness := (true, "2a3d48b2643efb43d2cb320fb55cd1298132ec6835d612c13f4f9f36d3d3aa99"), looks := true }, kinds := [], alts := [], laidByText := true, laidKinds := [.data, .data, .data, .sentinel, .sentinel, .data, .data, .data], laidTests := true, laidLooks := .later }
def ParseFormedCardSaid : Prop := Claim7.holds Tryz.pinned (.plain (OpenSpec.ofChange parseFormedSpec)) parseFormedCard

/-- THE TIED CARD OF 'corollarylaw06.ParseBlanks'. -/
def parseBlanksCard : Claim7 := { stood := { row := parseBlanksRow, standIns := [], harness := (true, "2a3d48b2643efb43d2cb320fb55cd1298132ec6835d612c13f4f9f36d3d3aa99"), looks := true }, kinds := [], alts := [], laidByText := true, laidKinds := [.data, .data, .data, .sentinel, .sentinel, .data, .data, .data], laidTests := true, laidLooks := .later }
def ParseBlanksCardSaid : Prop := Claim7.holds Tryz.pinned (.plain (OpenSpec.ofChange parseBlanksSpec)) parseBlanksCard

/-- THE SECOND FORM's CARD OF 'corollarylaw06.ParseFormed'. -/
def parseFormedUptoCard : Claim7 := { stood := { row := parseFormedUptoRow, standIns := [], harness := (true, "2a3d48b2643efb43d2cb320fb55cd1298132ec6835d612c13f4f9f36d3d3aa99"), looks := true }, kinds := [], alts := [], laidByText := true, laidKinds := [.data, .data, .data, .sentinel, .sentinel, .data, .data, .data], laidTests := true, laidLooks := .later }
def ParseFormedUptoCardSaid : Prop := Claim7.holds Tryz.pinned (.plain (OpenSpec.upto parseFormedSpec)) parseFormedUptoCard

/-- THE SECOND FORM's CARD OF 'corollarylaw06.ParseBlanks'. -/
def parseBlanksUptoCard : Claim7 := { stood := { row := parseBlanksUptoRow, standIns := [], harness := (true, "2a3d48b2643efb43d2cb320fb55cd1298132ec6835d612c13f4f9f36d3d3aa99"), looks := true }, kinds := [], alts := [], laidByText := true, laidKinds := [.data, .data, .data, .sentinel, .sentinel, .data, .data, .data], laidTests := true, laidLooks := .later }
def ParseBlanksUptoCardSaid : Prop := Claim7.holds Tryz.pinned (.plain (OpenSpec.upto parseBlanksSpec)) parseBlanksUptoCard
end Rows
end Go.Proofs.YtolnikpihedmbaaGreatDoor
