/-
  DERIVED. GIVEN WITH THE SEED: THE CARDS: each row of YtlfakhjcpdkaiaaDoorRows.lean that lists a variable, with what it lists TIED to the program's text (the seventh form; the later family's looks); each row that meets fmt, with fmt's text TOLD by the authors' own Lean function (tested against real Go, not proved from fmt's source: count such statements apart). THE CARD IS WHAT COUNTS. Prove the row's statement (the work); the ties are given (YtlfakhjcpdkaiaaDoorTie.lean); close each card by the builder's one call (the guide's Derived/Test/ToyasCard.lean, 'card_holds'). Laid BY PROGRAM, IN A SANDBOX (cutbox-door.mjs). By AI agents, Wed Nov 11 2026. No macro, syntax, notation, axiom, sorry.
-/
import Derived.Test.YtlfakhjcpdkaiaaDoorRows
import GoSem.ClaimSeven
namespace Go.Proofs.YtlfakhjcpdkaiaaDoor
namespace Rows

/-- THE TIED CARD OF 'corollarylaw05.TermTerms'. -/
def termTermsCard : Claim7 := { stood := { row := termTermsRow, standIns := [], harness := (true, "45b4c60e9c0c6b80585cc71a2467c3e9ce41cf87efc80b6bfd0a91eefe4ab2c7"), looks := true }, kinds := [], alts := [], laidByText := true, laidKinds := [.data, .data, .data, .sentinel, .sentinel, .data, .data], laidTests := true, laidLooks := .later }
def TermTermsCardSaid : Prop := Claim7.holds Tryd.pinned (.plain (OpenSpec.ofChange termTermsSpec)) termTermsCard

/-- THE TIED CARD OF 'corollarylaw05.TermWhole'. -/
def termWholeCard : Claim7 := { stood := { row := termWholeRow, standIns := [], harness := (true, "45b4c60e9c0c6b80585cc71a2467c3e9ce41cf87efc80b6bfd0a91eefe4ab2c7"), looks := true }, kinds := [], alts := [], laidByText := true, laidKinds := [.data, .data, .data, .sentinel, .sentinel, .data, .data], laidTests := true, laidLooks := .later }
def TermWholeCardSaid : Prop := Claim7.holds Tryd.pinned (.plain (OpenSpec.ofChange termWholeSpec)) termWholeCard

/-- THE SECOND FORM's CARD OF 'corollarylaw05.TermTerms'. -/
def termTermsUptoCard : Claim7 := { stood := { row := termTermsUptoRow, standIns := [], harness := (true, "45b4c60e9c0c6b80585cc71a2467c3e9ce41cf87efc80b6bfd0a91eefe4ab2c7"), looks := true }, kinds := [], alts := [], laidByText := true, laidKinds := [.data, .data, .data, .sentinel, .sentinel, .data, .data], laidTests := true, laidLooks := .later }
def TermTermsUptoCardSaid : Prop := Claim7.holds Tryd.pinned (.plain (OpenSpec.upto termTermsSpec)) termTermsUptoCard

/-- THE SECOND FORM's CARD OF 'corollarylaw05.TermWhole'. -/
def termWholeUptoCard : Claim7 := { stood := { row := termWholeUptoRow, standIns := [], harness := (true, "45b4c60e9c0c6b80585cc71a2467c3e9ce41cf87efc80b6bfd0a91eefe4ab2c7"), looks := true }, kinds := [], alts := [], laidByText := true, laidKinds := [.data, .data, .data, .sentinel, .sentinel, .data, .data], laidTests := true, laidLooks := .later }
def TermWholeUptoCardSaid : Prop := Claim7.holds Tryd.pinned (.plain (OpenSpec.upto termWholeSpec)) termWholeUptoCard
end Rows
end Go.Proofs.YtlfakhjcpdkaiaaDoor
