/-
  No cell of these rows narrows 'for every input' (looked for: loops, veiled, ifaces, maps, wideKeys, modest, calm, conditions, laid).
  DERIVED. THE GIVEN ROWS OF THIS SEAT. 3 by the template 'for every input the law returns true; each argument reads behind the call as it read before'; 0 by the template 'total and deterministic' (their statements: YthcgmdapgphmiaaTotals.lean).
  GIVEN WITH THE SEED: the statements are not yours to turn. If you find one false, say at which input.
  Laid BY PROGRAM, IN A SANDBOX (cutbox-rows.mjs): the forced cells as the released guide's own fill.sh prints them over the translation 19b96920551d86d5… (all of the seat's roots in one cut). By AI agents, Wed Nov 11 2026. No macro, syntax, notation, axiom, sorry.
-/
import Derived.Test.YthcgmdapgphmiaaChecked
import GoSem.Claim
import GoSem.ClaimJoined
import GoSem.ClaimMapViews
import Derived.JoinedTies
import Derived.KernelRfl
namespace Go.Proofs.Ythcgmdapgphmiaa
/- THE CELL 'sum', in the pinned program and in every row, IS THE sha256 OF THE DUMP (.gsa) THAT YthcgmdapgphmiaaProg.lean LOADS. Nothing in Lean hashes anything: it is a label: what it is worth is what the hold of that sum in a sandbox is worth. -/
noncomputable def Try.pinned : Pinned := { name := "ythcgmdapgphmiaa", sum := "19b96920551d86d516fdacf67da879ff75400f0001a41279c468dd09a9eb837b", checked := Try.checked }
namespace Rows
def none {H : Type} : Left H := { results := [], args := [] }

/-- 'syndromelaw.SparseSays': WHATEVER THE INPUT: true; the input reads as it did. -/
def sparseSaysSpec : ChangeSpec := { name := "sparseSays", fn := fun _ => fun
  | [d1, d2, d3, d4, d5] => { results := [.lit (.bool true)], args := [d1, d2, d3, d4, d5] }
  | _ => none }
def sparseSaysRow : OpenClaim := { program := "ythcgmdapgphmiaa", sum := "19b96920551d86d516fdacf67da879ff75400f0001a41279c468dd09a9eb837b", func := "syndrome/syndromelaw.SparseSays", spec := "sparseSays", unfollowed := true, recurses := true, apart := false }
def SparseSaysSaid : Prop := sparseSaysRow.holds Try.pinned (OpenSpec.ofChange sparseSaysSpec)

/-- ITS FALSE NEIGHBOUR: 'it returns false'. Refute it at one input. -/
def sparseSaysWrong : ChangeSpec := { name := "sparseSays", fn := fun _ => fun
  | [d1, d2, d3, d4, d5] => { results := [.lit (.bool false)], args := [d1, d2, d3, d4, d5] }
  | _ => none }
def SparseSaysWrongFalsely : Prop := sparseSaysRow.holds Try.pinned (OpenSpec.ofChange sparseSaysWrong)

/-- 'syndromelaw.SparseMade': WHATEVER THE INPUT: true; the input reads as it did. -/
def sparseMadeSpec : ChangeSpec := { name := "sparseMade", fn := fun _ => fun
  | [d1, d2, d3, d4, d5] => { results := [.lit (.bool true)], args := [d1, d2, d3, d4, d5] }
  | _ => none }
def sparseMadeRow : OpenClaim := { program := "ythcgmdapgphmiaa", sum := "19b96920551d86d516fdacf67da879ff75400f0001a41279c468dd09a9eb837b", func := "syndrome/syndromelaw.SparseMade", spec := "sparseMade", unfollowed := true, recurses := true, apart := false }
def SparseMadeSaid : Prop := sparseMadeRow.holds Try.pinned (OpenSpec.ofChange sparseMadeSpec)

/-- ITS FALSE NEIGHBOUR: 'it returns false'. Refute it at one input. -/
def sparseMadeWrong : ChangeSpec := { name := "sparseMade", fn := fun _ => fun
  | [d1, d2, d3, d4, d5] => { results := [.lit (.bool false)], args := [d1, d2, d3, d4, d5] }
  | _ => none }
def SparseMadeWrongFalsely : Prop := sparseMadeRow.holds Try.pinned (OpenSpec.ofChange sparseMadeWrong)

/-- 'syndrometop.TopPeel': WHATEVER THE INPUT: true; the input reads as it did. -/
def topPeelSpec : ChangeSpec := { name := "topPeel", fn := fun _ => fun
  | [d1, d2, d3, d4, d5, d6] => { results := [.lit (.bool true)], args := [d1, d2, d3, d4, d5, d6] }
  | _ => none }
def topPeelRow : OpenClaim := { program := "ythcgmdapgphmiaa", sum := "19b96920551d86d516fdacf67da879ff75400f0001a41279c468dd09a9eb837b", func := "syndrome/syndrometop.TopPeel", spec := "topPeel", unfollowed := true, recurses := true, apart := false }
def TopPeelSaid : Prop := topPeelRow.holds Try.pinned (OpenSpec.ofChange topPeelSpec)

/-- ITS FALSE NEIGHBOUR: 'it returns false'. Refute it at one input. -/
def topPeelWrong : ChangeSpec := { name := "topPeel", fn := fun _ => fun
  | [d1, d2, d3, d4, d5, d6] => { results := [.lit (.bool false)], args := [d1, d2, d3, d4, d5, d6] }
  | _ => none }
def TopPeelWrongFalsely : Prop := topPeelRow.holds Try.pinned (OpenSpec.ofChange topPeelWrong)

/- THE SECOND FORM. 'bulk': how many values and letters a reading holds, each counted each time it is reached (what is shared counts as often as it is met; a slice's spare places count too). A statement '..UptoSaid' is the law's where the arguments, and the package variables that the reading takes, are together of bulk at most 1048576: NARROWER than '..Said'. Prove '..Said' where nothing that the law and all that it calls make is longer than what came in: it says more and counts as full. Else prove '..UptoSaid'. A law counts once. -/
mutual
def uptoBulk {H : Type} : DataW H → Nat
  | .lit (.string bytes) => bytes.length + 1
  | .lit _ => 1
  | .nil => 1
  | .ptr d => uptoBulk d + 1
  | .slice elems spare => uptoBulkAll elems + uptoBulkAll spare + 1
  | .agg parts => uptoBulkAll parts + 1
  | .iface _ d => uptoBulk d + 1
  | .map entries => uptoBulkEntries entries + 1
  | .held _ => 1
def uptoBulkAll {H : Type} : List (DataW H) → Nat
  | [] => 0
  | d :: r => uptoBulk d + uptoBulkAll r
def uptoBulkEntries {H : Type} : List (Lit × DataW H) → Nat
  | [] => 0
  | x :: r => uptoBulkEntry x + uptoBulkEntries r
def uptoBulkEntry {H : Type} : Lit × DataW H → Nat
  | (.string bytes, d) => bytes.length + uptoBulk d + 1
  | (_, d) => uptoBulk d + 1
 end
def uptoSmall : (H : Type) → List (DataW H) → Bool := fun _ ds => decide (uptoBulkAll ds ≤ 1048576)
def OpenSpec.upto (s : _root_.Go.ChangeSpec) : _root_.Go.OpenSpec := { _root_.Go.OpenSpec.ofChange s with cond := some uptoSmall }

/-- 'syndromelaw.SparseSays', WHERE WHAT IT READS IS OF BULK AT MOST 1048576: true; the input reads as it did. -/
def sparseSaysUptoRow : OpenClaim := { program := "ythcgmdapgphmiaa", sum := "19b96920551d86d516fdacf67da879ff75400f0001a41279c468dd09a9eb837b", func := "syndrome/syndromelaw.SparseSays", spec := "sparseSays", unfollowed := true, recurses := true, apart := false, narrowed := true }
def SparseSaysUptoSaid : Prop := sparseSaysUptoRow.holds Try.pinned (OpenSpec.upto sparseSaysSpec)

/-- 'syndromelaw.SparseMade', WHERE WHAT IT READS IS OF BULK AT MOST 1048576: true; the input reads as it did. -/
def sparseMadeUptoRow : OpenClaim := { program := "ythcgmdapgphmiaa", sum := "19b96920551d86d516fdacf67da879ff75400f0001a41279c468dd09a9eb837b", func := "syndrome/syndromelaw.SparseMade", spec := "sparseMade", unfollowed := true, recurses := true, apart := false, narrowed := true }
def SparseMadeUptoSaid : Prop := sparseMadeUptoRow.holds Try.pinned (OpenSpec.upto sparseMadeSpec)

/-- 'syndrometop.TopPeel', WHERE WHAT IT READS IS OF BULK AT MOST 1048576: true; the input reads as it did. -/
def topPeelUptoRow : OpenClaim := { program := "ythcgmdapgphmiaa", sum := "19b96920551d86d516fdacf67da879ff75400f0001a41279c468dd09a9eb837b", func := "syndrome/syndrometop.TopPeel", spec := "topPeel", unfollowed := true, recurses := true, apart := false, narrowed := true }
def TopPeelUptoSaid : Prop := topPeelUptoRow.holds Try.pinned (OpenSpec.upto topPeelSpec)

end Rows
end Go.Proofs.Ythcgmdapgphmiaa
