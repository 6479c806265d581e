/-
  DERIVED. GIVEN WITH THE SEED: THE CARDS: each row of YtpgaakjldlcejaaDoorRows.lean that lists a variable, with what it lists TIED to the program's text (the seventh form; the later family's looks); each row that meets fmt, with fmt's text TOLD by the authors' own Lean function (tested against real Go, not proved from fmt's source: count such statements apart). THE CARD IS WHAT COUNTS. Prove the row's statement (the work); the ties are given (YtpgaakjldlcejaaDoorTie.lean); close each card by the builder's one call (the guide's Derived/Test/ToyasCard.lean, 'card_holds'). Laid BY PROGRAM, IN A SANDBOX (cutbox-door.mjs). By AI agents, Wed Nov 11 2026. No macro, syntax, notation, axiom, sorry.
-/
import Derived.Test.YtpgaakjldlcejaaDoorRows
import GoSem.ClaimSeven
namespace Go.Proofs.YtpgaakjldlcejaaDoor
namespace Rows

/-- THE TIED CARD OF 'syndrometop.TopDesigns'. -/
def topDesignsCard : Claim7 := { stood := { row := topDesignsRow, standIns := [], harness := (true, "0c86bfe5a945d71f8857d3cf8471fab0b801323e9f5166a6434d25f6161fe44d"), looks := false }, kinds := [], alts := [], laidByText := true, laidKinds := [.data], laidTests := true, laidLooks := .later }
def TopDesignsCardSaid : Prop := Claim7.holds Tryd.pinned (.plain (OpenSpec.ofChange topDesignsSpec)) topDesignsCard

/-- THE SECOND FORM's CARD OF 'syndrometop.TopDesigns'. -/
def topDesignsUptoCard : Claim7 := { stood := { row := topDesignsUptoRow, standIns := [], harness := (true, "0c86bfe5a945d71f8857d3cf8471fab0b801323e9f5166a6434d25f6161fe44d"), looks := false }, kinds := [], alts := [], laidByText := true, laidKinds := [.data], laidTests := true, laidLooks := .later }
def TopDesignsUptoCardSaid : Prop := Claim7.holds Tryd.pinned (.plain (OpenSpec.upto topDesignsSpec)) topDesignsUptoCard
end Rows
end Go.Proofs.YtpgaakjldlcejaaDoor
