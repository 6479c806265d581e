/-
  No cell of these rows narrows 'for every input' (looked for: loops, veiled, ifaces, maps, wideKeys, modest, calm, conditions, laid).
  DERIVED. THE GIVEN ROWS OF THIS SEAT. 6 by the template 'for every input the law returns true; each argument reads behind the call as it read before'; 0 by the template 'total and deterministic' (their statements: YtjkncdmbcckcdaaTotals.lean).
  GIVEN WITH THE SEED: the statements are not yours to turn. If you find one false, say at which input.
  Laid BY PROGRAM, IN A SANDBOX (cutbox-rows.mjs): the forced cells as the released guide's own fill.sh prints them over the translation e92b1be2b54c42ce… (all of the seat's roots in one cut). By AI agents, Wed Nov 11 2026. No macro, syntax, notation, axiom, sorry.
-/
import Derived.Test.YtjkncdmbcckcdaaChecked
import GoSem.Claim
import GoSem.ClaimJoined
import GoSem.ClaimMapViews
import Derived.JoinedTies
import Derived.KernelRfl
namespace Go.Proofs.Ytjkncdmbcckcdaa
/- THE CELL 'sum', in the pinned program and in every row, IS THE sha256 OF THE DUMP (.gsa) THAT YtjkncdmbcckcdaaProg.lean LOADS. Nothing in Lean hashes anything: it is a label: what it is worth is what the hold of that sum in a sandbox is worth. -/
noncomputable def Try.pinned : Pinned := { name := "ytjkncdmbcckcdaa", sum := "e92b1be2b54c42ce90b822e40b9ebd67fa36c42c6cf5e4057586eeb8252c90be", checked := Try.checked }
namespace Rows
def none {H : Type} : Left H := { results := [], args := [] }

/-- 'syndromelaw.ListsSay': WHATEVER THE INPUT: true; the input reads as it did. -/
def listsSaySpec : ChangeSpec := { name := "listsSay", fn := fun _ => fun
  | [d1, d2, d3, d4, d5, d6] => { results := [.lit (.bool true)], args := [d1, d2, d3, d4, d5, d6] }
  | _ => none }
def listsSayRow : OpenClaim := { program := "ytjkncdmbcckcdaa", sum := "e92b1be2b54c42ce90b822e40b9ebd67fa36c42c6cf5e4057586eeb8252c90be", func := "syndrome/syndromelaw.ListsSay", spec := "listsSay", unfollowed := true, recurses := true, apart := false }
def ListsSaySaid : Prop := listsSayRow.holds Try.pinned (OpenSpec.ofChange listsSaySpec)

/-- ITS FALSE NEIGHBOUR: 'it returns false'. Refute it at one input. -/
def listsSayWrong : ChangeSpec := { name := "listsSay", fn := fun _ => fun
  | [d1, d2, d3, d4, d5, d6] => { results := [.lit (.bool false)], args := [d1, d2, d3, d4, d5, d6] }
  | _ => none }
def ListsSayWrongFalsely : Prop := listsSayRow.holds Try.pinned (OpenSpec.ofChange listsSayWrong)

/-- 'syndromelaw.ListsMade': WHATEVER THE INPUT: true; the input reads as it did. -/
def listsMadeSpec : ChangeSpec := { name := "listsMade", fn := fun _ => fun
  | [d1, d2, d3, d4, d5, d6] => { results := [.lit (.bool true)], args := [d1, d2, d3, d4, d5, d6] }
  | _ => none }
def listsMadeRow : OpenClaim := { program := "ytjkncdmbcckcdaa", sum := "e92b1be2b54c42ce90b822e40b9ebd67fa36c42c6cf5e4057586eeb8252c90be", func := "syndrome/syndromelaw.ListsMade", spec := "listsMade", unfollowed := true, recurses := true, apart := false }
def ListsMadeSaid : Prop := listsMadeRow.holds Try.pinned (OpenSpec.ofChange listsMadeSpec)

/-- ITS FALSE NEIGHBOUR: 'it returns false'. Refute it at one input. -/
def listsMadeWrong : ChangeSpec := { name := "listsMade", fn := fun _ => fun
  | [d1, d2, d3, d4, d5, d6] => { results := [.lit (.bool false)], args := [d1, d2, d3, d4, d5, d6] }
  | _ => none }
def ListsMadeWrongFalsely : Prop := listsMadeRow.holds Try.pinned (OpenSpec.ofChange listsMadeWrong)

/-- 'syndromelaw.ListsCurve': WHATEVER THE INPUT: true; the input reads as it did. -/
def listsCurveSpec : ChangeSpec := { name := "listsCurve", fn := fun _ => fun
  | [d1, d2, d3] => { results := [.lit (.bool true)], args := [d1, d2, d3] }
  | _ => none }
def listsCurveRow : OpenClaim := { program := "ytjkncdmbcckcdaa", sum := "e92b1be2b54c42ce90b822e40b9ebd67fa36c42c6cf5e4057586eeb8252c90be", func := "syndrome/syndromelaw.ListsCurve", spec := "listsCurve", unfollowed := true, recurses := true, apart := false }
def ListsCurveSaid : Prop := listsCurveRow.holds Try.pinned (OpenSpec.ofChange listsCurveSpec)

/-- ITS FALSE NEIGHBOUR: 'it returns false'. Refute it at one input. -/
def listsCurveWrong : ChangeSpec := { name := "listsCurve", fn := fun _ => fun
  | [d1, d2, d3] => { results := [.lit (.bool false)], args := [d1, d2, d3] }
  | _ => none }
def ListsCurveWrongFalsely : Prop := listsCurveRow.holds Try.pinned (OpenSpec.ofChange listsCurveWrong)

/-- 'syndromelaw.GolayIs': WHATEVER THE INPUT: true; the input reads as it did. -/
def golayIsSpec : ChangeSpec := { name := "golayIs", fn := fun _ => fun
  | [] => { results := [.lit (.bool true)], args := [] }
  | _ => none }
def golayIsRow : OpenClaim := { program := "ytjkncdmbcckcdaa", sum := "e92b1be2b54c42ce90b822e40b9ebd67fa36c42c6cf5e4057586eeb8252c90be", func := "syndrome/syndromelaw.GolayIs", spec := "golayIs", unfollowed := true, recurses := true, apart := false }
def GolayIsSaid : Prop := golayIsRow.holds Try.pinned (OpenSpec.ofChange golayIsSpec)

/-- ITS FALSE NEIGHBOUR: 'it returns false'. Refute it at one input. -/
def golayIsWrong : ChangeSpec := { name := "golayIs", fn := fun _ => fun
  | [] => { results := [.lit (.bool false)], args := [] }
  | _ => none }
def GolayIsWrongFalsely : Prop := golayIsRow.holds Try.pinned (OpenSpec.ofChange golayIsWrong)

/-- 'syndromelaw.SparseSays': WHATEVER THE INPUT: true; the input reads as it did. -/
def sparseSaysSpec : ChangeSpec := { name := "sparseSays", fn := fun _ => fun
  | [d1, d2, d3, d4, d5] => { results := [.lit (.bool true)], args := [d1, d2, d3, d4, d5] }
  | _ => none }
def sparseSaysRow : OpenClaim := { program := "ytjkncdmbcckcdaa", sum := "e92b1be2b54c42ce90b822e40b9ebd67fa36c42c6cf5e4057586eeb8252c90be", func := "syndrome/syndromelaw.SparseSays", spec := "sparseSays", unfollowed := true, recurses := true, apart := false }
def SparseSaysSaid : Prop := sparseSaysRow.holds Try.pinned (OpenSpec.ofChange sparseSaysSpec)

/-- ITS FALSE NEIGHBOUR: 'it returns false'. Refute it at one input. -/
def sparseSaysWrong : ChangeSpec := { name := "sparseSays", fn := fun _ => fun
  | [d1, d2, d3, d4, d5] => { results := [.lit (.bool false)], args := [d1, d2, d3, d4, d5] }
  | _ => none }
def SparseSaysWrongFalsely : Prop := sparseSaysRow.holds Try.pinned (OpenSpec.ofChange sparseSaysWrong)

/-- 'syndromelaw.SparseMade': WHATEVER THE INPUT: true; the input reads as it did. -/
def sparseMadeSpec : ChangeSpec := { name := "sparseMade", fn := fun _ => fun
  | [d1, d2, d3, d4, d5] => { results := [.lit (.bool true)], args := [d1, d2, d3, d4, d5] }
  | _ => none }
def sparseMadeRow : OpenClaim := { program := "ytjkncdmbcckcdaa", sum := "e92b1be2b54c42ce90b822e40b9ebd67fa36c42c6cf5e4057586eeb8252c90be", func := "syndrome/syndromelaw.SparseMade", spec := "sparseMade", unfollowed := true, recurses := true, apart := false }
def SparseMadeSaid : Prop := sparseMadeRow.holds Try.pinned (OpenSpec.ofChange sparseMadeSpec)

/-- ITS FALSE NEIGHBOUR: 'it returns false'. Refute it at one input. -/
def sparseMadeWrong : ChangeSpec := { name := "sparseMade", fn := fun _ => fun
  | [d1, d2, d3, d4, d5] => { results := [.lit (.bool false)], args := [d1, d2, d3, d4, d5] }
  | _ => none }
def SparseMadeWrongFalsely : Prop := sparseMadeRow.holds Try.pinned (OpenSpec.ofChange sparseMadeWrong)

/- THE SECOND FORM. 'bulk': how many values and letters a reading holds, each counted each time it is reached (what is shared counts as often as it is met; a slice's spare places count too). A statement '..UptoSaid' is the law's where the arguments, and the package variables that the reading takes, are together of bulk at most 1048576: NARROWER than '..Said'. Prove '..Said' where nothing that the law and all that it calls make is longer than what came in: it says more and counts as full. Else prove '..UptoSaid'. A law counts once. -/
mutual
def uptoBulk {H : Type} : DataW H → Nat
  | .lit (.string bytes) => bytes.length + 1
  | .lit _ => 1
  | .nil => 1
  | .ptr d => uptoBulk d + 1
  | .slice elems spare => uptoBulkAll elems + uptoBulkAll spare + 1
  | .agg parts => uptoBulkAll parts + 1
  | .iface _ d => uptoBulk d + 1
  | .map entries => uptoBulkEntries entries + 1
  | .held _ => 1
def uptoBulkAll {H : Type} : List (DataW H) → Nat
  | [] => 0
  | d :: r => uptoBulk d + uptoBulkAll r
def uptoBulkEntries {H : Type} : List (Lit × DataW H) → Nat
  | [] => 0
  | x :: r => uptoBulkEntry x + uptoBulkEntries r
def uptoBulkEntry {H : Type} : Lit × DataW H → Nat
  | (.string bytes, d) => bytes.length + uptoBulk d + 1
  | (_, d) => uptoBulk d + 1
 end
def uptoSmall : (H : Type) → List (DataW H) → Bool := fun _ ds => decide (uptoBulkAll ds ≤ 1048576)
def OpenSpec.upto (s : _root_.Go.ChangeSpec) : _root_.Go.OpenSpec := { _root_.Go.OpenSpec.ofChange s with cond := some uptoSmall }

/-- 'syndromelaw.ListsSay', WHERE WHAT IT READS IS OF BULK AT MOST 1048576: true; the input reads as it did. -/
def listsSayUptoRow : OpenClaim := { program := "ytjkncdmbcckcdaa", sum := "e92b1be2b54c42ce90b822e40b9ebd67fa36c42c6cf5e4057586eeb8252c90be", func := "syndrome/syndromelaw.ListsSay", spec := "listsSay", unfollowed := true, recurses := true, apart := false, narrowed := true }
def ListsSayUptoSaid : Prop := listsSayUptoRow.holds Try.pinned (OpenSpec.upto listsSaySpec)

/-- 'syndromelaw.ListsMade', WHERE WHAT IT READS IS OF BULK AT MOST 1048576: true; the input reads as it did. -/
def listsMadeUptoRow : OpenClaim := { program := "ytjkncdmbcckcdaa", sum := "e92b1be2b54c42ce90b822e40b9ebd67fa36c42c6cf5e4057586eeb8252c90be", func := "syndrome/syndromelaw.ListsMade", spec := "listsMade", unfollowed := true, recurses := true, apart := false, narrowed := true }
def ListsMadeUptoSaid : Prop := listsMadeUptoRow.holds Try.pinned (OpenSpec.upto listsMadeSpec)

/-- 'syndromelaw.ListsCurve', WHERE WHAT IT READS IS OF BULK AT MOST 1048576: true; the input reads as it did. -/
def listsCurveUptoRow : OpenClaim := { program := "ytjkncdmbcckcdaa", sum := "e92b1be2b54c42ce90b822e40b9ebd67fa36c42c6cf5e4057586eeb8252c90be", func := "syndrome/syndromelaw.ListsCurve", spec := "listsCurve", unfollowed := true, recurses := true, apart := false, narrowed := true }
def ListsCurveUptoSaid : Prop := listsCurveUptoRow.holds Try.pinned (OpenSpec.upto listsCurveSpec)

/-- 'syndromelaw.GolayIs', WHERE WHAT IT READS IS OF BULK AT MOST 1048576: true; the input reads as it did. -/
def golayIsUptoRow : OpenClaim := { program := "ytjkncdmbcckcdaa", sum := "e92b1be2b54c42ce90b822e40b9ebd67fa36c42c6cf5e4057586eeb8252c90be", func := "syndrome/syndromelaw.GolayIs", spec := "golayIs", unfollowed := true, recurses := true, apart := false, narrowed := true }
def GolayIsUptoSaid : Prop := golayIsUptoRow.holds Try.pinned (OpenSpec.upto golayIsSpec)

/-- 'syndromelaw.SparseSays', WHERE WHAT IT READS IS OF BULK AT MOST 1048576: true; the input reads as it did. -/
def sparseSaysUptoRow : OpenClaim := { program := "ytjkncdmbcckcdaa", sum := "e92b1be2b54c42ce90b822e40b9ebd67fa36c42c6cf5e4057586eeb8252c90be", func := "syndrome/syndromelaw.SparseSays", spec := "sparseSays", unfollowed := true, recurses := true, apart := false, narrowed := true }
def SparseSaysUptoSaid : Prop := sparseSaysUptoRow.holds Try.pinned (OpenSpec.upto sparseSaysSpec)

/-- 'syndromelaw.SparseMade', WHERE WHAT IT READS IS OF BULK AT MOST 1048576: true; the input reads as it did. -/
def sparseMadeUptoRow : OpenClaim := { program := "ytjkncdmbcckcdaa", sum := "e92b1be2b54c42ce90b822e40b9ebd67fa36c42c6cf5e4057586eeb8252c90be", func := "syndrome/syndromelaw.SparseMade", spec := "sparseMade", unfollowed := true, recurses := true, apart := false, narrowed := true }
def SparseMadeUptoSaid : Prop := sparseMadeUptoRow.holds Try.pinned (OpenSpec.upto sparseMadeSpec)

end Rows
end Go.Proofs.Ytjkncdmbcckcdaa
