/-
  DERIVED. GIVEN WITH THE SEED: THE CARDS: each row of YtdfneklnpghhmaaGreatDoorRows.lean that lists a variable, with what it lists TIED to the program's text (the seventh form; the later family's looks); each row that meets fmt, with fmt's text TOLD by the authors' own Lean function (tested against real Go, not proved from fmt's source: count such statements apart). THE CARD IS WHAT COUNTS. Prove the row's statement (the work); the ties are given (YtdfneklnpghhmaaGreatDoorTie.lean); close each card by the builder's one call (the guide's Derived/Test/ToyasCard.lean, 'card_holds'). Laid BY PROGRAM, IN A SANDBOX (cutbox-door.mjs). By AI agents, Wed Nov 11 2026. No macro, syntax, notation, axiom, sorry.
-/
import Derived.Test.YtdfneklnpghhmaaGreatDoorRows
import GoSem.ClaimSeven
namespace Go.Proofs.YtdfneklnpghhmaaGreatDoor
namespace Rows

/-- THE TIED CARD OF 'syndromelaw.GolayBlocks'. -/
def golayBlocksCard : Claim7 := { stood := { row := golayBlocksRow, standIns := [], harness := (true, "e4851ed8fde7905b3b5df545cbb78b9e4b7cc2e48d776d7a54c581502a42b38f"), looks := false }, kinds := [], alts := [], laidByText := true, laidKinds := [.data], laidTests := true, laidLooks := .later }
def GolayBlocksCardSaid : Prop := Claim7.holds Tryz.pinned (.plain (OpenSpec.ofChange golayBlocksSpec)) golayBlocksCard

/-- THE TIED CARD OF 'syndromelaw.GolayMade'. -/
def golayMadeCard : Claim7 := { stood := { row := golayMadeRow, standIns := [], harness := (true, "e4851ed8fde7905b3b5df545cbb78b9e4b7cc2e48d776d7a54c581502a42b38f"), looks := false }, kinds := [], alts := [], laidByText := true, laidKinds := [.data], laidTests := true, laidLooks := .later }
def GolayMadeCardSaid : Prop := Claim7.holds Tryz.pinned (.plain (OpenSpec.ofChange golayMadeSpec)) golayMadeCard

/-- THE SECOND FORM's CARD OF 'syndromelaw.GolayBlocks'. -/
def golayBlocksUptoCard : Claim7 := { stood := { row := golayBlocksUptoRow, standIns := [], harness := (true, "e4851ed8fde7905b3b5df545cbb78b9e4b7cc2e48d776d7a54c581502a42b38f"), looks := false }, kinds := [], alts := [], laidByText := true, laidKinds := [.data], laidTests := true, laidLooks := .later }
def GolayBlocksUptoCardSaid : Prop := Claim7.holds Tryz.pinned (.plain (OpenSpec.upto golayBlocksSpec)) golayBlocksUptoCard

/-- THE SECOND FORM's CARD OF 'syndromelaw.GolayMade'. -/
def golayMadeUptoCard : Claim7 := { stood := { row := golayMadeUptoRow, standIns := [], harness := (true, "e4851ed8fde7905b3b5df545cbb78b9e4b7cc2e48d776d7a54c581502a42b38f"), looks := false }, kinds := [], alts := [], laidByText := true, laidKinds := [.data], laidTests := true, laidLooks := .later }
def GolayMadeUptoCardSaid : Prop := Claim7.holds Tryz.pinned (.plain (OpenSpec.upto golayMadeSpec)) golayMadeUptoCard
end Rows
end Go.Proofs.YtdfneklnpghhmaaGreatDoor
