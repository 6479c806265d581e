/-
  DERIVED. GIVEN WITH THE SEED: THE CARDS: each row of YtinmkgohganllaaGreatDoorRows.lean that lists a variable, with what it lists TIED to the program's text (the seventh form; the later family's looks); each row that meets fmt, with fmt's text TOLD by the authors' own Lean function (tested against real Go, not proved from fmt's source: count such statements apart). THE CARD IS WHAT COUNTS. Prove the row's statement (the work); the ties are given (YtinmkgohganllaaGreatDoorTie.lean); close each card by the builder's one call (the guide's Derived/Test/ToyasCard.lean, 'card_holds'). Laid BY PROGRAM, IN A SANDBOX (cutbox-door.mjs). By AI agents, Wed Nov 11 2026. No macro, syntax, notation, axiom, sorry.
-/
import Derived.Test.YtinmkgohganllaaGreatDoorRows
import GoSem.ClaimSeven
namespace Go.Proofs.YtinmkgohganllaaGreatDoor
namespace Rows

/-- THE TIED CARD OF 'syndromelaw.CodeMade'. -/
def codeMadeCard : Claim7 := { stood := { row := codeMadeRow, standIns := [], harness := (true, "0d35c1973d7a714af67f9ce12db080b0d63bbb0576379bc5dec6ebf96d055306"), looks := false }, kinds := [], alts := [], laidByText := true, laidKinds := [.data, .data, .data, .data, .pinned], laidTests := true, laidLooks := .later }
def CodeMadeCardSaid : Prop := Claim7.holds Tryz.pinned (.plain (OpenSpec.ofChange codeMadeSpec)) codeMadeCard

/-- THE SECOND FORM's CARD OF 'syndromelaw.CodeMade'. -/
def codeMadeUptoCard : Claim7 := { stood := { row := codeMadeUptoRow, standIns := [], harness := (true, "0d35c1973d7a714af67f9ce12db080b0d63bbb0576379bc5dec6ebf96d055306"), looks := false }, kinds := [], alts := [], laidByText := true, laidKinds := [.data, .data, .data, .data, .pinned], laidTests := true, laidLooks := .later }
def CodeMadeUptoCardSaid : Prop := Claim7.holds Tryz.pinned (.plain (OpenSpec.upto codeMadeSpec)) codeMadeUptoCard
end Rows
end Go.Proofs.YtinmkgohganllaaGreatDoor
