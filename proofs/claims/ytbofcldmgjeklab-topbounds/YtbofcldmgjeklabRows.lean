/-
  No cell of these rows narrows 'for every input' (looked for: loops, veiled, ifaces, maps, wideKeys, modest, calm, conditions, laid).
  DERIVED. THE GIVEN ROWS OF THIS SEAT. 4 by the template 'for every input the law returns true; each argument reads behind the call as it read before'; 0 by the template 'total and deterministic' (their statements: YtbofcldmgjeklabTotals.lean).
  GIVEN WITH THE SEED: the statements are not yours to turn. If you find one false, say at which input.
  Laid BY PROGRAM, IN A SANDBOX (cutbox-rows.mjs): the forced cells as the released guide's own fill.sh prints them over the translation 5d5c22dd2514b988… (all of the seat's roots in one cut). By AI agents, Wed Nov 11 2026. No macro, syntax, notation, axiom, sorry.
-/
import Derived.Test.YtbofcldmgjeklabChecked
import GoSem.Claim
import GoSem.ClaimJoined
import GoSem.ClaimMapViews
import Derived.JoinedTies
import Derived.KernelRfl
namespace Go.Proofs.Ytbofcldmgjeklab
/- THE CELL 'sum', in the pinned program and in every row, IS THE sha256 OF THE DUMP (.gsa) THAT YtbofcldmgjeklabProg.lean LOADS. Nothing in Lean hashes anything: it is a label: what it is worth is what the hold of that sum in a sandbox is worth. -/
noncomputable def Try.pinned : Pinned := { name := "ytbofcldmgjeklab", sum := "5d5c22dd2514b9886200af4fd2b20eeb342f7a60370ec802d74d63936484c3af", checked := Try.checked }
namespace Rows
def none {H : Type} : Left H := { results := [], args := [] }

/-- 'syndromelaw.MullerMade': WHATEVER THE INPUT: true; the input reads as it did. -/
def mullerMadeSpec : ChangeSpec := { name := "mullerMade", fn := fun _ => fun
  | [d1, d2, d3, d4] => { results := [.lit (.bool true)], args := [d1, d2, d3, d4] }
  | _ => none }
def mullerMadeRow : OpenClaim := { program := "ytbofcldmgjeklab", sum := "5d5c22dd2514b9886200af4fd2b20eeb342f7a60370ec802d74d63936484c3af", func := "syndrome/syndromelaw.MullerMade", spec := "mullerMade", unfollowed := true, recurses := true, apart := false }
def MullerMadeSaid : Prop := mullerMadeRow.holds Try.pinned (OpenSpec.ofChange mullerMadeSpec)

/-- ITS FALSE NEIGHBOUR: 'it returns false'. Refute it at one input. -/
def mullerMadeWrong : ChangeSpec := { name := "mullerMade", fn := fun _ => fun
  | [d1, d2, d3, d4] => { results := [.lit (.bool false)], args := [d1, d2, d3, d4] }
  | _ => none }
def MullerMadeWrongFalsely : Prop := mullerMadeRow.holds Try.pinned (OpenSpec.ofChange mullerMadeWrong)

/-- 'syndrometop.TopStore': WHATEVER THE INPUT: true; the input reads as it did. -/
def topStoreSpec : ChangeSpec := { name := "topStore", fn := fun _ => fun
  | [d1, d2, d3, d4, d5, d6] => { results := [.lit (.bool true)], args := [d1, d2, d3, d4, d5, d6] }
  | _ => none }
def topStoreRow : OpenClaim := { program := "ytbofcldmgjeklab", sum := "5d5c22dd2514b9886200af4fd2b20eeb342f7a60370ec802d74d63936484c3af", func := "syndrome/syndrometop.TopStore", spec := "topStore", unfollowed := true, recurses := true, apart := false }
def TopStoreSaid : Prop := topStoreRow.holds Try.pinned (OpenSpec.ofChange topStoreSpec)

/-- ITS FALSE NEIGHBOUR: 'it returns false'. Refute it at one input. -/
def topStoreWrong : ChangeSpec := { name := "topStore", fn := fun _ => fun
  | [d1, d2, d3, d4, d5, d6] => { results := [.lit (.bool false)], args := [d1, d2, d3, d4, d5, d6] }
  | _ => none }
def TopStoreWrongFalsely : Prop := topStoreRow.holds Try.pinned (OpenSpec.ofChange topStoreWrong)

/-- 'syndrometop.TopMacWilliams': WHATEVER THE INPUT: true; the input reads as it did. -/
def topMacWilliamsSpec : ChangeSpec := { name := "topMacWilliams", fn := fun _ => fun
  | [d1, d2, d3, d4] => { results := [.lit (.bool true)], args := [d1, d2, d3, d4] }
  | _ => none }
def topMacWilliamsRow : OpenClaim := { program := "ytbofcldmgjeklab", sum := "5d5c22dd2514b9886200af4fd2b20eeb342f7a60370ec802d74d63936484c3af", func := "syndrome/syndrometop.TopMacWilliams", spec := "topMacWilliams", unfollowed := true, recurses := true, apart := false }
def TopMacWilliamsSaid : Prop := topMacWilliamsRow.holds Try.pinned (OpenSpec.ofChange topMacWilliamsSpec)

/-- ITS FALSE NEIGHBOUR: 'it returns false'. Refute it at one input. -/
def topMacWilliamsWrong : ChangeSpec := { name := "topMacWilliams", fn := fun _ => fun
  | [d1, d2, d3, d4] => { results := [.lit (.bool false)], args := [d1, d2, d3, d4] }
  | _ => none }
def TopMacWilliamsWrongFalsely : Prop := topMacWilliamsRow.holds Try.pinned (OpenSpec.ofChange topMacWilliamsWrong)

/-- 'syndrometop.TopBounds': WHATEVER THE INPUT: true; the input reads as it did. -/
def topBoundsSpec : ChangeSpec := { name := "topBounds", fn := fun _ => fun
  | [d1, d2, d3, d4, d5] => { results := [.lit (.bool true)], args := [d1, d2, d3, d4, d5] }
  | _ => none }
def topBoundsRow : OpenClaim := { program := "ytbofcldmgjeklab", sum := "5d5c22dd2514b9886200af4fd2b20eeb342f7a60370ec802d74d63936484c3af", func := "syndrome/syndrometop.TopBounds", spec := "topBounds", unfollowed := true, recurses := true, apart := false }
def TopBoundsSaid : Prop := topBoundsRow.holds Try.pinned (OpenSpec.ofChange topBoundsSpec)

/-- ITS FALSE NEIGHBOUR: 'it returns false'. Refute it at one input. -/
def topBoundsWrong : ChangeSpec := { name := "topBounds", fn := fun _ => fun
  | [d1, d2, d3, d4, d5] => { results := [.lit (.bool false)], args := [d1, d2, d3, d4, d5] }
  | _ => none }
def TopBoundsWrongFalsely : Prop := topBoundsRow.holds Try.pinned (OpenSpec.ofChange topBoundsWrong)

/- THE SECOND FORM. 'bulk': how many values and letters a reading holds, each counted each time it is reached (what is shared counts as often as it is met; a slice's spare places count too). A statement '..UptoSaid' is the law's where the arguments, and the package variables that the reading takes, are together of bulk at most 1048576: NARROWER than '..Said'. Prove '..Said' where nothing that the law and all that it calls make is longer than what came in: it says more and counts as full. Else prove '..UptoSaid'. A law counts once. -/
mutual
def uptoBulk {H : Type} : DataW H → Nat
  | .lit (.string bytes) => bytes.length + 1
  | .lit _ => 1
  | .nil => 1
  | .ptr d => uptoBulk d + 1
  | .slice elems spare => uptoBulkAll elems + uptoBulkAll spare + 1
  | .agg parts => uptoBulkAll parts + 1
  | .iface _ d => uptoBulk d + 1
  | .map entries => uptoBulkEntries entries + 1
  | .held _ => 1
def uptoBulkAll {H : Type} : List (DataW H) → Nat
  | [] => 0
  | d :: r => uptoBulk d + uptoBulkAll r
def uptoBulkEntries {H : Type} : List (Lit × DataW H) → Nat
  | [] => 0
  | x :: r => uptoBulkEntry x + uptoBulkEntries r
def uptoBulkEntry {H : Type} : Lit × DataW H → Nat
  | (.string bytes, d) => bytes.length + uptoBulk d + 1
  | (_, d) => uptoBulk d + 1
 end
def uptoSmall : (H : Type) → List (DataW H) → Bool := fun _ ds => decide (uptoBulkAll ds ≤ 1048576)
def OpenSpec.upto (s : _root_.Go.ChangeSpec) : _root_.Go.OpenSpec := { _root_.Go.OpenSpec.ofChange s with cond := some uptoSmall }

/-- 'syndromelaw.MullerMade', WHERE WHAT IT READS IS OF BULK AT MOST 1048576: true; the input reads as it did. -/
def mullerMadeUptoRow : OpenClaim := { program := "ytbofcldmgjeklab", sum := "5d5c22dd2514b9886200af4fd2b20eeb342f7a60370ec802d74d63936484c3af", func := "syndrome/syndromelaw.MullerMade", spec := "mullerMade", unfollowed := true, recurses := true, apart := false, narrowed := true }
def MullerMadeUptoSaid : Prop := mullerMadeUptoRow.holds Try.pinned (OpenSpec.upto mullerMadeSpec)

/-- 'syndrometop.TopStore', WHERE WHAT IT READS IS OF BULK AT MOST 1048576: true; the input reads as it did. -/
def topStoreUptoRow : OpenClaim := { program := "ytbofcldmgjeklab", sum := "5d5c22dd2514b9886200af4fd2b20eeb342f7a60370ec802d74d63936484c3af", func := "syndrome/syndrometop.TopStore", spec := "topStore", unfollowed := true, recurses := true, apart := false, narrowed := true }
def TopStoreUptoSaid : Prop := topStoreUptoRow.holds Try.pinned (OpenSpec.upto topStoreSpec)

/-- 'syndrometop.TopMacWilliams', WHERE WHAT IT READS IS OF BULK AT MOST 1048576: true; the input reads as it did. -/
def topMacWilliamsUptoRow : OpenClaim := { program := "ytbofcldmgjeklab", sum := "5d5c22dd2514b9886200af4fd2b20eeb342f7a60370ec802d74d63936484c3af", func := "syndrome/syndrometop.TopMacWilliams", spec := "topMacWilliams", unfollowed := true, recurses := true, apart := false, narrowed := true }
def TopMacWilliamsUptoSaid : Prop := topMacWilliamsUptoRow.holds Try.pinned (OpenSpec.upto topMacWilliamsSpec)

/-- 'syndrometop.TopBounds', WHERE WHAT IT READS IS OF BULK AT MOST 1048576: true; the input reads as it did. -/
def topBoundsUptoRow : OpenClaim := { program := "ytbofcldmgjeklab", sum := "5d5c22dd2514b9886200af4fd2b20eeb342f7a60370ec802d74d63936484c3af", func := "syndrome/syndrometop.TopBounds", spec := "topBounds", unfollowed := true, recurses := true, apart := false, narrowed := true }
def TopBoundsUptoSaid : Prop := topBoundsUptoRow.holds Try.pinned (OpenSpec.upto topBoundsSpec)

end Rows
end Go.Proofs.Ytbofcldmgjeklab
