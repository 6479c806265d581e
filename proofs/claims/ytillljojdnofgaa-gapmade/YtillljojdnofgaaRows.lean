/-
  No cell of these rows narrows 'for every input' (looked for: loops, veiled, ifaces, maps, wideKeys, modest, calm, conditions, laid).
  DERIVED. THE GIVEN ROWS OF THIS SEAT. 5 by the template 'for every input the law returns true; each argument reads behind the call as it read before'; 0 by the template 'total and deterministic' (their statements: YtillljojdnofgaaTotals.lean).
  GIVEN WITH THE SEED: the statements are not yours to turn. If you find one false, say at which input.
  Laid BY PROGRAM, IN A SANDBOX (cutbox-rows.mjs): the forced cells as the released guide's own fill.sh prints them over the translation 6bd52404cb069a8b… (all of the seat's roots in one cut). By AI agents, Wed Nov 11 2026. No macro, syntax, notation, axiom, sorry.
-/
import Derived.Test.YtillljojdnofgaaChecked
import GoSem.Claim
import GoSem.ClaimJoined
import GoSem.ClaimMapViews
import Derived.JoinedTies
import Derived.KernelRfl
namespace Go.Proofs.Ytillljojdnofgaa
/- THE CELL 'sum', in the pinned program and in every row, IS THE sha256 OF THE DUMP (.gsa) THAT YtillljojdnofgaaProg.lean LOADS. Nothing in Lean hashes anything: it is a label: what it is worth is what the hold of that sum in a sandbox is worth. -/
noncomputable def Try.pinned : Pinned := { name := "ytillljojdnofgaa", sum := "6bd52404cb069a8bf177c9ab03f4f0042cac5ce97cd6ab39246b3dfbb8c870e3", checked := Try.checked }
namespace Rows
def none {H : Type} : Left H := { results := [], args := [] }

/-- 'syndromelaw.GapSays': WHATEVER THE INPUT: true; the input reads as it did. -/
def gapSaysSpec : ChangeSpec := { name := "gapSays", fn := fun _ => fun
  | [d1, d2, d3, d4] => { results := [.lit (.bool true)], args := [d1, d2, d3, d4] }
  | _ => none }
def gapSaysRow : OpenClaim := { program := "ytillljojdnofgaa", sum := "6bd52404cb069a8bf177c9ab03f4f0042cac5ce97cd6ab39246b3dfbb8c870e3", func := "syndrome/syndromelaw.GapSays", spec := "gapSays", unfollowed := true, recurses := true, apart := false }
def GapSaysSaid : Prop := gapSaysRow.holds Try.pinned (OpenSpec.ofChange gapSaysSpec)

/-- ITS FALSE NEIGHBOUR: 'it returns false'. Refute it at one input. -/
def gapSaysWrong : ChangeSpec := { name := "gapSays", fn := fun _ => fun
  | [d1, d2, d3, d4] => { results := [.lit (.bool false)], args := [d1, d2, d3, d4] }
  | _ => none }
def GapSaysWrongFalsely : Prop := gapSaysRow.holds Try.pinned (OpenSpec.ofChange gapSaysWrong)

/-- 'syndromelaw.GapMade': WHATEVER THE INPUT: true; the input reads as it did. -/
def gapMadeSpec : ChangeSpec := { name := "gapMade", fn := fun _ => fun
  | [d1, d2, d3, d4, d5] => { results := [.lit (.bool true)], args := [d1, d2, d3, d4, d5] }
  | _ => none }
def gapMadeRow : OpenClaim := { program := "ytillljojdnofgaa", sum := "6bd52404cb069a8bf177c9ab03f4f0042cac5ce97cd6ab39246b3dfbb8c870e3", func := "syndrome/syndromelaw.GapMade", spec := "gapMade", unfollowed := true, recurses := true, apart := false }
def GapMadeSaid : Prop := gapMadeRow.holds Try.pinned (OpenSpec.ofChange gapMadeSpec)

/-- ITS FALSE NEIGHBOUR: 'it returns false'. Refute it at one input. -/
def gapMadeWrong : ChangeSpec := { name := "gapMade", fn := fun _ => fun
  | [d1, d2, d3, d4, d5] => { results := [.lit (.bool false)], args := [d1, d2, d3, d4, d5] }
  | _ => none }
def GapMadeWrongFalsely : Prop := gapMadeRow.holds Try.pinned (OpenSpec.ofChange gapMadeWrong)

/-- 'syndrometop.TopFrobenius': WHATEVER THE INPUT: true; the input reads as it did. -/
def topFrobeniusSpec : ChangeSpec := { name := "topFrobenius", fn := fun _ => fun
  | [d1, d2, d3, d4] => { results := [.lit (.bool true)], args := [d1, d2, d3, d4] }
  | _ => none }
def topFrobeniusRow : OpenClaim := { program := "ytillljojdnofgaa", sum := "6bd52404cb069a8bf177c9ab03f4f0042cac5ce97cd6ab39246b3dfbb8c870e3", func := "syndrome/syndrometop.TopFrobenius", spec := "topFrobenius", unfollowed := true, recurses := true, apart := false }
def TopFrobeniusSaid : Prop := topFrobeniusRow.holds Try.pinned (OpenSpec.ofChange topFrobeniusSpec)

/-- ITS FALSE NEIGHBOUR: 'it returns false'. Refute it at one input. -/
def topFrobeniusWrong : ChangeSpec := { name := "topFrobenius", fn := fun _ => fun
  | [d1, d2, d3, d4] => { results := [.lit (.bool false)], args := [d1, d2, d3, d4] }
  | _ => none }
def TopFrobeniusWrongFalsely : Prop := topFrobeniusRow.holds Try.pinned (OpenSpec.ofChange topFrobeniusWrong)

/-- 'syndrometop.TopFactors': WHATEVER THE INPUT: true; the input reads as it did. -/
def topFactorsSpec : ChangeSpec := { name := "topFactors", fn := fun _ => fun
  | [d1, d2, d3, d4] => { results := [.lit (.bool true)], args := [d1, d2, d3, d4] }
  | _ => none }
def topFactorsRow : OpenClaim := { program := "ytillljojdnofgaa", sum := "6bd52404cb069a8bf177c9ab03f4f0042cac5ce97cd6ab39246b3dfbb8c870e3", func := "syndrome/syndrometop.TopFactors", spec := "topFactors", unfollowed := true, recurses := true, apart := false }
def TopFactorsSaid : Prop := topFactorsRow.holds Try.pinned (OpenSpec.ofChange topFactorsSpec)

/-- ITS FALSE NEIGHBOUR: 'it returns false'. Refute it at one input. -/
def topFactorsWrong : ChangeSpec := { name := "topFactors", fn := fun _ => fun
  | [d1, d2, d3, d4] => { results := [.lit (.bool false)], args := [d1, d2, d3, d4] }
  | _ => none }
def TopFactorsWrongFalsely : Prop := topFactorsRow.holds Try.pinned (OpenSpec.ofChange topFactorsWrong)

/-- 'syndrometop.TopGap': WHATEVER THE INPUT: true; the input reads as it did. -/
def topGapSpec : ChangeSpec := { name := "topGap", fn := fun _ => fun
  | [d1, d2, d3, d4, d5, d6] => { results := [.lit (.bool true)], args := [d1, d2, d3, d4, d5, d6] }
  | _ => none }
def topGapRow : OpenClaim := { program := "ytillljojdnofgaa", sum := "6bd52404cb069a8bf177c9ab03f4f0042cac5ce97cd6ab39246b3dfbb8c870e3", func := "syndrome/syndrometop.TopGap", spec := "topGap", unfollowed := true, recurses := true, apart := false }
def TopGapSaid : Prop := topGapRow.holds Try.pinned (OpenSpec.ofChange topGapSpec)

/-- ITS FALSE NEIGHBOUR: 'it returns false'. Refute it at one input. -/
def topGapWrong : ChangeSpec := { name := "topGap", fn := fun _ => fun
  | [d1, d2, d3, d4, d5, d6] => { results := [.lit (.bool false)], args := [d1, d2, d3, d4, d5, d6] }
  | _ => none }
def TopGapWrongFalsely : Prop := topGapRow.holds Try.pinned (OpenSpec.ofChange topGapWrong)

/- THE SECOND FORM. 'bulk': how many values and letters a reading holds, each counted each time it is reached (what is shared counts as often as it is met; a slice's spare places count too). A statement '..UptoSaid' is the law's where the arguments, and the package variables that the reading takes, are together of bulk at most 1048576: NARROWER than '..Said'. Prove '..Said' where nothing that the law and all that it calls make is longer than what came in: it says more and counts as full. Else prove '..UptoSaid'. A law counts once. -/
mutual
def uptoBulk {H : Type} : DataW H → Nat
  | .lit (.string bytes) => bytes.length + 1
  | .lit _ => 1
  | .nil => 1
  | .ptr d => uptoBulk d + 1
  | .slice elems spare => uptoBulkAll elems + uptoBulkAll spare + 1
  | .agg parts => uptoBulkAll parts + 1
  | .iface _ d => uptoBulk d + 1
  | .map entries => uptoBulkEntries entries + 1
  | .held _ => 1
def uptoBulkAll {H : Type} : List (DataW H) → Nat
  | [] => 0
  | d :: r => uptoBulk d + uptoBulkAll r
def uptoBulkEntries {H : Type} : List (Lit × DataW H) → Nat
  | [] => 0
  | x :: r => uptoBulkEntry x + uptoBulkEntries r
def uptoBulkEntry {H : Type} : Lit × DataW H → Nat
  | (.string bytes, d) => bytes.length + uptoBulk d + 1
  | (_, d) => uptoBulk d + 1
 end
def uptoSmall : (H : Type) → List (DataW H) → Bool := fun _ ds => decide (uptoBulkAll ds ≤ 1048576)
def OpenSpec.upto (s : _root_.Go.ChangeSpec) : _root_.Go.OpenSpec := { _root_.Go.OpenSpec.ofChange s with cond := some uptoSmall }

/-- 'syndromelaw.GapSays', WHERE WHAT IT READS IS OF BULK AT MOST 1048576: true; the input reads as it did. -/
def gapSaysUptoRow : OpenClaim := { program := "ytillljojdnofgaa", sum := "6bd52404cb069a8bf177c9ab03f4f0042cac5ce97cd6ab39246b3dfbb8c870e3", func := "syndrome/syndromelaw.GapSays", spec := "gapSays", unfollowed := true, recurses := true, apart := false, narrowed := true }
def GapSaysUptoSaid : Prop := gapSaysUptoRow.holds Try.pinned (OpenSpec.upto gapSaysSpec)

/-- 'syndromelaw.GapMade', WHERE WHAT IT READS IS OF BULK AT MOST 1048576: true; the input reads as it did. -/
def gapMadeUptoRow : OpenClaim := { program := "ytillljojdnofgaa", sum := "6bd52404cb069a8bf177c9ab03f4f0042cac5ce97cd6ab39246b3dfbb8c870e3", func := "syndrome/syndromelaw.GapMade", spec := "gapMade", unfollowed := true, recurses := true, apart := false, narrowed := true }
def GapMadeUptoSaid : Prop := gapMadeUptoRow.holds Try.pinned (OpenSpec.upto gapMadeSpec)

/-- 'syndrometop.TopFrobenius', WHERE WHAT IT READS IS OF BULK AT MOST 1048576: true; the input reads as it did. -/
def topFrobeniusUptoRow : OpenClaim := { program := "ytillljojdnofgaa", sum := "6bd52404cb069a8bf177c9ab03f4f0042cac5ce97cd6ab39246b3dfbb8c870e3", func := "syndrome/syndrometop.TopFrobenius", spec := "topFrobenius", unfollowed := true, recurses := true, apart := false, narrowed := true }
def TopFrobeniusUptoSaid : Prop := topFrobeniusUptoRow.holds Try.pinned (OpenSpec.upto topFrobeniusSpec)

/-- 'syndrometop.TopFactors', WHERE WHAT IT READS IS OF BULK AT MOST 1048576: true; the input reads as it did. -/
def topFactorsUptoRow : OpenClaim := { program := "ytillljojdnofgaa", sum := "6bd52404cb069a8bf177c9ab03f4f0042cac5ce97cd6ab39246b3dfbb8c870e3", func := "syndrome/syndrometop.TopFactors", spec := "topFactors", unfollowed := true, recurses := true, apart := false, narrowed := true }
def TopFactorsUptoSaid : Prop := topFactorsUptoRow.holds Try.pinned (OpenSpec.upto topFactorsSpec)

/-- 'syndrometop.TopGap', WHERE WHAT IT READS IS OF BULK AT MOST 1048576: true; the input reads as it did. -/
def topGapUptoRow : OpenClaim := { program := "ytillljojdnofgaa", sum := "6bd52404cb069a8bf177c9ab03f4f0042cac5ce97cd6ab39246b3dfbb8c870e3", func := "syndrome/syndrometop.TopGap", spec := "topGap", unfollowed := true, recurses := true, apart := false, narrowed := true }
def TopGapUptoSaid : Prop := topGapUptoRow.holds Try.pinned (OpenSpec.upto topGapSpec)

end Rows
end Go.Proofs.Ytillljojdnofgaa
