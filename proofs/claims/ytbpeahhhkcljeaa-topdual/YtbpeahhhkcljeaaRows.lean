/-
  No cell of these rows narrows 'for every input' (looked for: loops, veiled, ifaces, maps, wideKeys, modest, calm, conditions, laid).
  DERIVED. THE GIVEN ROWS OF THIS SEAT. 6 by the template 'for every input the law returns true; each argument reads behind the call as it read before'; 0 by the template 'total and deterministic' (their statements: YtbpeahhhkcljeaaTotals.lean).
  GIVEN WITH THE SEED: the statements are not yours to turn. If you find one false, say at which input.
  Laid BY PROGRAM, IN A SANDBOX (cutbox-rows.mjs): the forced cells as the released guide's own fill.sh prints them over the translation 5a9cefa0dbd189ad… (all of the seat's roots in one cut). By AI agents, Wed Nov 11 2026. No macro, syntax, notation, axiom, sorry.
-/
import Derived.Test.YtbpeahhhkcljeaaChecked
import GoSem.Claim
import GoSem.ClaimJoined
import GoSem.ClaimMapViews
import Derived.JoinedTies
import Derived.KernelRfl
namespace Go.Proofs.Ytbpeahhhkcljeaa
/- THE CELL 'sum', in the pinned program and in every row, IS THE sha256 OF THE DUMP (.gsa) THAT YtbpeahhhkcljeaaProg.lean LOADS. Nothing in Lean hashes anything: it is a label: what it is worth is what the hold of that sum in a sandbox is worth. -/
noncomputable def Try.pinned : Pinned := { name := "ytbpeahhhkcljeaa", sum := "5a9cefa0dbd189ad29e3118ae4f47fc00d8d81c97c9f05a8a730ba5d4ba75291", checked := Try.checked }
namespace Rows
def none {H : Type} : Left H := { results := [], args := [] }

/-- 'syndromelaw.MatrixSays': WHATEVER THE INPUT: true; the input reads as it did. -/
def matrixSaysSpec : ChangeSpec := { name := "matrixSays", fn := fun _ => fun
  | [d1, d2, d3, d4] => { results := [.lit (.bool true)], args := [d1, d2, d3, d4] }
  | _ => none }
def matrixSaysRow : OpenClaim := { program := "ytbpeahhhkcljeaa", sum := "5a9cefa0dbd189ad29e3118ae4f47fc00d8d81c97c9f05a8a730ba5d4ba75291", func := "syndrome/syndromelaw.MatrixSays", spec := "matrixSays", unfollowed := true, recurses := true, apart := false }
def MatrixSaysSaid : Prop := matrixSaysRow.holds Try.pinned (OpenSpec.ofChange matrixSaysSpec)

/-- ITS FALSE NEIGHBOUR: 'it returns false'. Refute it at one input. -/
def matrixSaysWrong : ChangeSpec := { name := "matrixSays", fn := fun _ => fun
  | [d1, d2, d3, d4] => { results := [.lit (.bool false)], args := [d1, d2, d3, d4] }
  | _ => none }
def MatrixSaysWrongFalsely : Prop := matrixSaysRow.holds Try.pinned (OpenSpec.ofChange matrixSaysWrong)

/-- 'syndromelaw.MatrixMade': WHATEVER THE INPUT: true; the input reads as it did. -/
def matrixMadeSpec : ChangeSpec := { name := "matrixMade", fn := fun _ => fun
  | [d1, d2, d3, d4, d5] => { results := [.lit (.bool true)], args := [d1, d2, d3, d4, d5] }
  | _ => none }
def matrixMadeRow : OpenClaim := { program := "ytbpeahhhkcljeaa", sum := "5a9cefa0dbd189ad29e3118ae4f47fc00d8d81c97c9f05a8a730ba5d4ba75291", func := "syndrome/syndromelaw.MatrixMade", spec := "matrixMade", unfollowed := true, recurses := true, apart := false }
def MatrixMadeSaid : Prop := matrixMadeRow.holds Try.pinned (OpenSpec.ofChange matrixMadeSpec)

/-- ITS FALSE NEIGHBOUR: 'it returns false'. Refute it at one input. -/
def matrixMadeWrong : ChangeSpec := { name := "matrixMade", fn := fun _ => fun
  | [d1, d2, d3, d4, d5] => { results := [.lit (.bool false)], args := [d1, d2, d3, d4, d5] }
  | _ => none }
def MatrixMadeWrongFalsely : Prop := matrixMadeRow.holds Try.pinned (OpenSpec.ofChange matrixMadeWrong)

/-- 'syndromelaw.CodeSays': WHATEVER THE INPUT: true; the input reads as it did. -/
def codeSaysSpec : ChangeSpec := { name := "codeSays", fn := fun _ => fun
  | [d1, d2, d3, d4] => { results := [.lit (.bool true)], args := [d1, d2, d3, d4] }
  | _ => none }
def codeSaysRow : OpenClaim := { program := "ytbpeahhhkcljeaa", sum := "5a9cefa0dbd189ad29e3118ae4f47fc00d8d81c97c9f05a8a730ba5d4ba75291", func := "syndrome/syndromelaw.CodeSays", spec := "codeSays", unfollowed := true, recurses := true, apart := false }
def CodeSaysSaid : Prop := codeSaysRow.holds Try.pinned (OpenSpec.ofChange codeSaysSpec)

/-- ITS FALSE NEIGHBOUR: 'it returns false'. Refute it at one input. -/
def codeSaysWrong : ChangeSpec := { name := "codeSays", fn := fun _ => fun
  | [d1, d2, d3, d4] => { results := [.lit (.bool false)], args := [d1, d2, d3, d4] }
  | _ => none }
def CodeSaysWrongFalsely : Prop := codeSaysRow.holds Try.pinned (OpenSpec.ofChange codeSaysWrong)

/-- 'syndromelaw.CodePairs': WHATEVER THE INPUT: true; the input reads as it did. -/
def codePairsSpec : ChangeSpec := { name := "codePairs", fn := fun _ => fun
  | [d1, d2] => { results := [.lit (.bool true)], args := [d1, d2] }
  | _ => none }
def codePairsRow : OpenClaim := { program := "ytbpeahhhkcljeaa", sum := "5a9cefa0dbd189ad29e3118ae4f47fc00d8d81c97c9f05a8a730ba5d4ba75291", func := "syndrome/syndromelaw.CodePairs", spec := "codePairs", unfollowed := true, recurses := true, apart := false }
def CodePairsSaid : Prop := codePairsRow.holds Try.pinned (OpenSpec.ofChange codePairsSpec)

/-- ITS FALSE NEIGHBOUR: 'it returns false'. Refute it at one input. -/
def codePairsWrong : ChangeSpec := { name := "codePairs", fn := fun _ => fun
  | [d1, d2] => { results := [.lit (.bool false)], args := [d1, d2] }
  | _ => none }
def CodePairsWrongFalsely : Prop := codePairsRow.holds Try.pinned (OpenSpec.ofChange codePairsWrong)

/-- 'syndrometop.TopMatrix': WHATEVER THE INPUT: true; the input reads as it did. -/
def topMatrixSpec : ChangeSpec := { name := "topMatrix", fn := fun _ => fun
  | [d1, d2, d3, d4] => { results := [.lit (.bool true)], args := [d1, d2, d3, d4] }
  | _ => none }
def topMatrixRow : OpenClaim := { program := "ytbpeahhhkcljeaa", sum := "5a9cefa0dbd189ad29e3118ae4f47fc00d8d81c97c9f05a8a730ba5d4ba75291", func := "syndrome/syndrometop.TopMatrix", spec := "topMatrix", unfollowed := true, recurses := true, apart := false }
def TopMatrixSaid : Prop := topMatrixRow.holds Try.pinned (OpenSpec.ofChange topMatrixSpec)

/-- ITS FALSE NEIGHBOUR: 'it returns false'. Refute it at one input. -/
def topMatrixWrong : ChangeSpec := { name := "topMatrix", fn := fun _ => fun
  | [d1, d2, d3, d4] => { results := [.lit (.bool false)], args := [d1, d2, d3, d4] }
  | _ => none }
def TopMatrixWrongFalsely : Prop := topMatrixRow.holds Try.pinned (OpenSpec.ofChange topMatrixWrong)

/-- 'syndrometop.TopDual': WHATEVER THE INPUT: true; the input reads as it did. -/
def topDualSpec : ChangeSpec := { name := "topDual", fn := fun _ => fun
  | [d1, d2, d3, d4, d5] => { results := [.lit (.bool true)], args := [d1, d2, d3, d4, d5] }
  | _ => none }
def topDualRow : OpenClaim := { program := "ytbpeahhhkcljeaa", sum := "5a9cefa0dbd189ad29e3118ae4f47fc00d8d81c97c9f05a8a730ba5d4ba75291", func := "syndrome/syndrometop.TopDual", spec := "topDual", unfollowed := true, recurses := true, apart := false }
def TopDualSaid : Prop := topDualRow.holds Try.pinned (OpenSpec.ofChange topDualSpec)

/-- ITS FALSE NEIGHBOUR: 'it returns false'. Refute it at one input. -/
def topDualWrong : ChangeSpec := { name := "topDual", fn := fun _ => fun
  | [d1, d2, d3, d4, d5] => { results := [.lit (.bool false)], args := [d1, d2, d3, d4, d5] }
  | _ => none }
def TopDualWrongFalsely : Prop := topDualRow.holds Try.pinned (OpenSpec.ofChange topDualWrong)

/- THE SECOND FORM. 'bulk': how many values and letters a reading holds, each counted each time it is reached (what is shared counts as often as it is met; a slice's spare places count too). A statement '..UptoSaid' is the law's where the arguments, and the package variables that the reading takes, are together of bulk at most 1048576: NARROWER than '..Said'. Prove '..Said' where nothing that the law and all that it calls make is longer than what came in: it says more and counts as full. Else prove '..UptoSaid'. A law counts once. -/
mutual
def uptoBulk {H : Type} : DataW H → Nat
  | .lit (.string bytes) => bytes.length + 1
  | .lit _ => 1
  | .nil => 1
  | .ptr d => uptoBulk d + 1
  | .slice elems spare => uptoBulkAll elems + uptoBulkAll spare + 1
  | .agg parts => uptoBulkAll parts + 1
  | .iface _ d => uptoBulk d + 1
  | .map entries => uptoBulkEntries entries + 1
  | .held _ => 1
def uptoBulkAll {H : Type} : List (DataW H) → Nat
  | [] => 0
  | d :: r => uptoBulk d + uptoBulkAll r
def uptoBulkEntries {H : Type} : List (Lit × DataW H) → Nat
  | [] => 0
  | x :: r => uptoBulkEntry x + uptoBulkEntries r
def uptoBulkEntry {H : Type} : Lit × DataW H → Nat
  | (.string bytes, d) => bytes.length + uptoBulk d + 1
  | (_, d) => uptoBulk d + 1
 end
def uptoSmall : (H : Type) → List (DataW H) → Bool := fun _ ds => decide (uptoBulkAll ds ≤ 1048576)
def OpenSpec.upto (s : _root_.Go.ChangeSpec) : _root_.Go.OpenSpec := { _root_.Go.OpenSpec.ofChange s with cond := some uptoSmall }

/-- 'syndromelaw.MatrixSays', WHERE WHAT IT READS IS OF BULK AT MOST 1048576: true; the input reads as it did. -/
def matrixSaysUptoRow : OpenClaim := { program := "ytbpeahhhkcljeaa", sum := "5a9cefa0dbd189ad29e3118ae4f47fc00d8d81c97c9f05a8a730ba5d4ba75291", func := "syndrome/syndromelaw.MatrixSays", spec := "matrixSays", unfollowed := true, recurses := true, apart := false, narrowed := true }
def MatrixSaysUptoSaid : Prop := matrixSaysUptoRow.holds Try.pinned (OpenSpec.upto matrixSaysSpec)

/-- 'syndromelaw.MatrixMade', WHERE WHAT IT READS IS OF BULK AT MOST 1048576: true; the input reads as it did. -/
def matrixMadeUptoRow : OpenClaim := { program := "ytbpeahhhkcljeaa", sum := "5a9cefa0dbd189ad29e3118ae4f47fc00d8d81c97c9f05a8a730ba5d4ba75291", func := "syndrome/syndromelaw.MatrixMade", spec := "matrixMade", unfollowed := true, recurses := true, apart := false, narrowed := true }
def MatrixMadeUptoSaid : Prop := matrixMadeUptoRow.holds Try.pinned (OpenSpec.upto matrixMadeSpec)

/-- 'syndromelaw.CodeSays', WHERE WHAT IT READS IS OF BULK AT MOST 1048576: true; the input reads as it did. -/
def codeSaysUptoRow : OpenClaim := { program := "ytbpeahhhkcljeaa", sum := "5a9cefa0dbd189ad29e3118ae4f47fc00d8d81c97c9f05a8a730ba5d4ba75291", func := "syndrome/syndromelaw.CodeSays", spec := "codeSays", unfollowed := true, recurses := true, apart := false, narrowed := true }
def CodeSaysUptoSaid : Prop := codeSaysUptoRow.holds Try.pinned (OpenSpec.upto codeSaysSpec)

/-- 'syndromelaw.CodePairs', WHERE WHAT IT READS IS OF BULK AT MOST 1048576: true; the input reads as it did. -/
def codePairsUptoRow : OpenClaim := { program := "ytbpeahhhkcljeaa", sum := "5a9cefa0dbd189ad29e3118ae4f47fc00d8d81c97c9f05a8a730ba5d4ba75291", func := "syndrome/syndromelaw.CodePairs", spec := "codePairs", unfollowed := true, recurses := true, apart := false, narrowed := true }
def CodePairsUptoSaid : Prop := codePairsUptoRow.holds Try.pinned (OpenSpec.upto codePairsSpec)

/-- 'syndrometop.TopMatrix', WHERE WHAT IT READS IS OF BULK AT MOST 1048576: true; the input reads as it did. -/
def topMatrixUptoRow : OpenClaim := { program := "ytbpeahhhkcljeaa", sum := "5a9cefa0dbd189ad29e3118ae4f47fc00d8d81c97c9f05a8a730ba5d4ba75291", func := "syndrome/syndrometop.TopMatrix", spec := "topMatrix", unfollowed := true, recurses := true, apart := false, narrowed := true }
def TopMatrixUptoSaid : Prop := topMatrixUptoRow.holds Try.pinned (OpenSpec.upto topMatrixSpec)

/-- 'syndrometop.TopDual', WHERE WHAT IT READS IS OF BULK AT MOST 1048576: true; the input reads as it did. -/
def topDualUptoRow : OpenClaim := { program := "ytbpeahhhkcljeaa", sum := "5a9cefa0dbd189ad29e3118ae4f47fc00d8d81c97c9f05a8a730ba5d4ba75291", func := "syndrome/syndrometop.TopDual", spec := "topDual", unfollowed := true, recurses := true, apart := false, narrowed := true }
def TopDualUptoSaid : Prop := topDualUptoRow.holds Try.pinned (OpenSpec.upto topDualSpec)

end Rows
end Go.Proofs.Ytbpeahhhkcljeaa
