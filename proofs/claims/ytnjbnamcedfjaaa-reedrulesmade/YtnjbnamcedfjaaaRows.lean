/-
  No cell of these rows narrows 'for every input' (looked for: loops, veiled, ifaces, maps, wideKeys, modest, calm, conditions, laid).
  DERIVED. THE GIVEN ROWS OF THIS SEAT. 5 by the template 'for every input the law returns true; each argument reads behind the call as it read before'; 0 by the template 'total and deterministic' (their statements: YtnjbnamcedfjaaaTotals.lean).
  GIVEN WITH THE SEED: the statements are not yours to turn. If you find one false, say at which input.
  Laid BY PROGRAM, IN A SANDBOX (cutbox-rows.mjs): the forced cells as the released guide's own fill.sh prints them over the translation b9541c4f3d6908d5… (all of the seat's roots in one cut). By AI agents, Wed Nov 11 2026. No macro, syntax, notation, axiom, sorry.
-/
import Derived.Test.YtnjbnamcedfjaaaChecked
import GoSem.Claim
import GoSem.ClaimJoined
import GoSem.ClaimMapViews
import Derived.JoinedTies
import Derived.KernelRfl
namespace Go.Proofs.Ytnjbnamcedfjaaa
/- THE CELL 'sum', in the pinned program and in every row, IS THE sha256 OF THE DUMP (.gsa) THAT YtnjbnamcedfjaaaProg.lean LOADS. Nothing in Lean hashes anything: it is a label: what it is worth is what the hold of that sum in a sandbox is worth. -/
noncomputable def Try.pinned : Pinned := { name := "ytnjbnamcedfjaaa", sum := "b9541c4f3d6908d5dfce827a16b5495f97f2a82376d9c579377dcd85258fa9e6", checked := Try.checked }
namespace Rows
def none {H : Type} : Left H := { results := [], args := [] }

/-- 'syndromelaw.WeightsSay': WHATEVER THE INPUT: true; the input reads as it did. -/
def weightsSaySpec : ChangeSpec := { name := "weightsSay", fn := fun _ => fun
  | [d1, d2, d3, d4, d5] => { results := [.lit (.bool true)], args := [d1, d2, d3, d4, d5] }
  | _ => none }
def weightsSayRow : OpenClaim := { program := "ytnjbnamcedfjaaa", sum := "b9541c4f3d6908d5dfce827a16b5495f97f2a82376d9c579377dcd85258fa9e6", func := "syndrome/syndromelaw.WeightsSay", spec := "weightsSay", unfollowed := true, recurses := true, apart := false }
def WeightsSaySaid : Prop := weightsSayRow.holds Try.pinned (OpenSpec.ofChange weightsSaySpec)

/-- ITS FALSE NEIGHBOUR: 'it returns false'. Refute it at one input. -/
def weightsSayWrong : ChangeSpec := { name := "weightsSay", fn := fun _ => fun
  | [d1, d2, d3, d4, d5] => { results := [.lit (.bool false)], args := [d1, d2, d3, d4, d5] }
  | _ => none }
def WeightsSayWrongFalsely : Prop := weightsSayRow.holds Try.pinned (OpenSpec.ofChange weightsSayWrong)

/-- 'syndromelaw.WeightsShow': WHATEVER THE INPUT: true; the input reads as it did. -/
def weightsShowSpec : ChangeSpec := { name := "weightsShow", fn := fun _ => fun
  | [d1, d2, d3, d4] => { results := [.lit (.bool true)], args := [d1, d2, d3, d4] }
  | _ => none }
def weightsShowRow : OpenClaim := { program := "ytnjbnamcedfjaaa", sum := "b9541c4f3d6908d5dfce827a16b5495f97f2a82376d9c579377dcd85258fa9e6", func := "syndrome/syndromelaw.WeightsShow", spec := "weightsShow", unfollowed := true, recurses := true, apart := false }
def WeightsShowSaid : Prop := weightsShowRow.holds Try.pinned (OpenSpec.ofChange weightsShowSpec)

/-- ITS FALSE NEIGHBOUR: 'it returns false'. Refute it at one input. -/
def weightsShowWrong : ChangeSpec := { name := "weightsShow", fn := fun _ => fun
  | [d1, d2, d3, d4] => { results := [.lit (.bool false)], args := [d1, d2, d3, d4] }
  | _ => none }
def WeightsShowWrongFalsely : Prop := weightsShowRow.holds Try.pinned (OpenSpec.ofChange weightsShowWrong)

/-- 'syndromelaw.ReedSays': WHATEVER THE INPUT: true; the input reads as it did. -/
def reedSaysSpec : ChangeSpec := { name := "reedSays", fn := fun _ => fun
  | [d1, d2, d3, d4, d5] => { results := [.lit (.bool true)], args := [d1, d2, d3, d4, d5] }
  | _ => none }
def reedSaysRow : OpenClaim := { program := "ytnjbnamcedfjaaa", sum := "b9541c4f3d6908d5dfce827a16b5495f97f2a82376d9c579377dcd85258fa9e6", func := "syndrome/syndromelaw.ReedSays", spec := "reedSays", unfollowed := true, recurses := true, apart := false }
def ReedSaysSaid : Prop := reedSaysRow.holds Try.pinned (OpenSpec.ofChange reedSaysSpec)

/-- ITS FALSE NEIGHBOUR: 'it returns false'. Refute it at one input. -/
def reedSaysWrong : ChangeSpec := { name := "reedSays", fn := fun _ => fun
  | [d1, d2, d3, d4, d5] => { results := [.lit (.bool false)], args := [d1, d2, d3, d4, d5] }
  | _ => none }
def ReedSaysWrongFalsely : Prop := reedSaysRow.holds Try.pinned (OpenSpec.ofChange reedSaysWrong)

/-- 'syndromelaw.ReedRules': WHATEVER THE INPUT: true; the input reads as it did. -/
def reedRulesSpec : ChangeSpec := { name := "reedRules", fn := fun _ => fun
  | [d1, d2] => { results := [.lit (.bool true)], args := [d1, d2] }
  | _ => none }
def reedRulesRow : OpenClaim := { program := "ytnjbnamcedfjaaa", sum := "b9541c4f3d6908d5dfce827a16b5495f97f2a82376d9c579377dcd85258fa9e6", func := "syndrome/syndromelaw.ReedRules", spec := "reedRules", unfollowed := true, recurses := true, apart := false }
def ReedRulesSaid : Prop := reedRulesRow.holds Try.pinned (OpenSpec.ofChange reedRulesSpec)

/-- ITS FALSE NEIGHBOUR: 'it returns false'. Refute it at one input. -/
def reedRulesWrong : ChangeSpec := { name := "reedRules", fn := fun _ => fun
  | [d1, d2] => { results := [.lit (.bool false)], args := [d1, d2] }
  | _ => none }
def ReedRulesWrongFalsely : Prop := reedRulesRow.holds Try.pinned (OpenSpec.ofChange reedRulesWrong)

/-- 'syndromelaw.ReedRulesMade': WHATEVER THE INPUT: true; the input reads as it did. -/
def reedRulesMadeSpec : ChangeSpec := { name := "reedRulesMade", fn := fun _ => fun
  | [d1, d2, d3] => { results := [.lit (.bool true)], args := [d1, d2, d3] }
  | _ => none }
def reedRulesMadeRow : OpenClaim := { program := "ytnjbnamcedfjaaa", sum := "b9541c4f3d6908d5dfce827a16b5495f97f2a82376d9c579377dcd85258fa9e6", func := "syndrome/syndromelaw.ReedRulesMade", spec := "reedRulesMade", unfollowed := true, recurses := true, apart := false }
def ReedRulesMadeSaid : Prop := reedRulesMadeRow.holds Try.pinned (OpenSpec.ofChange reedRulesMadeSpec)

/-- ITS FALSE NEIGHBOUR: 'it returns false'. Refute it at one input. -/
def reedRulesMadeWrong : ChangeSpec := { name := "reedRulesMade", fn := fun _ => fun
  | [d1, d2, d3] => { results := [.lit (.bool false)], args := [d1, d2, d3] }
  | _ => none }
def ReedRulesMadeWrongFalsely : Prop := reedRulesMadeRow.holds Try.pinned (OpenSpec.ofChange reedRulesMadeWrong)

/- THE SECOND FORM. 'bulk': how many values and letters a reading holds, each counted each time it is reached (what is shared counts as often as it is met; a slice's spare places count too). A statement '..UptoSaid' is the law's where the arguments, and the package variables that the reading takes, are together of bulk at most 1048576: NARROWER than '..Said'. Prove '..Said' where nothing that the law and all that it calls make is longer than what came in: it says more and counts as full. Else prove '..UptoSaid'. A law counts once. -/
mutual
def uptoBulk {H : Type} : DataW H → Nat
  | .lit (.string bytes) => bytes.length + 1
  | .lit _ => 1
  | .nil => 1
  | .ptr d => uptoBulk d + 1
  | .slice elems spare => uptoBulkAll elems + uptoBulkAll spare + 1
  | .agg parts => uptoBulkAll parts + 1
  | .iface _ d => uptoBulk d + 1
  | .map entries => uptoBulkEntries entries + 1
  | .held _ => 1
def uptoBulkAll {H : Type} : List (DataW H) → Nat
  | [] => 0
  | d :: r => uptoBulk d + uptoBulkAll r
def uptoBulkEntries {H : Type} : List (Lit × DataW H) → Nat
  | [] => 0
  | x :: r => uptoBulkEntry x + uptoBulkEntries r
def uptoBulkEntry {H : Type} : Lit × DataW H → Nat
  | (.string bytes, d) => bytes.length + uptoBulk d + 1
  | (_, d) => uptoBulk d + 1
 end
def uptoSmall : (H : Type) → List (DataW H) → Bool := fun _ ds => decide (uptoBulkAll ds ≤ 1048576)
def OpenSpec.upto (s : _root_.Go.ChangeSpec) : _root_.Go.OpenSpec := { _root_.Go.OpenSpec.ofChange s with cond := some uptoSmall }

/-- 'syndromelaw.WeightsSay', WHERE WHAT IT READS IS OF BULK AT MOST 1048576: true; the input reads as it did. -/
def weightsSayUptoRow : OpenClaim := { program := "ytnjbnamcedfjaaa", sum := "b9541c4f3d6908d5dfce827a16b5495f97f2a82376d9c579377dcd85258fa9e6", func := "syndrome/syndromelaw.WeightsSay", spec := "weightsSay", unfollowed := true, recurses := true, apart := false, narrowed := true }
def WeightsSayUptoSaid : Prop := weightsSayUptoRow.holds Try.pinned (OpenSpec.upto weightsSaySpec)

/-- 'syndromelaw.WeightsShow', WHERE WHAT IT READS IS OF BULK AT MOST 1048576: true; the input reads as it did. -/
def weightsShowUptoRow : OpenClaim := { program := "ytnjbnamcedfjaaa", sum := "b9541c4f3d6908d5dfce827a16b5495f97f2a82376d9c579377dcd85258fa9e6", func := "syndrome/syndromelaw.WeightsShow", spec := "weightsShow", unfollowed := true, recurses := true, apart := false, narrowed := true }
def WeightsShowUptoSaid : Prop := weightsShowUptoRow.holds Try.pinned (OpenSpec.upto weightsShowSpec)

/-- 'syndromelaw.ReedSays', WHERE WHAT IT READS IS OF BULK AT MOST 1048576: true; the input reads as it did. -/
def reedSaysUptoRow : OpenClaim := { program := "ytnjbnamcedfjaaa", sum := "b9541c4f3d6908d5dfce827a16b5495f97f2a82376d9c579377dcd85258fa9e6", func := "syndrome/syndromelaw.ReedSays", spec := "reedSays", unfollowed := true, recurses := true, apart := false, narrowed := true }
def ReedSaysUptoSaid : Prop := reedSaysUptoRow.holds Try.pinned (OpenSpec.upto reedSaysSpec)

/-- 'syndromelaw.ReedRules', WHERE WHAT IT READS IS OF BULK AT MOST 1048576: true; the input reads as it did. -/
def reedRulesUptoRow : OpenClaim := { program := "ytnjbnamcedfjaaa", sum := "b9541c4f3d6908d5dfce827a16b5495f97f2a82376d9c579377dcd85258fa9e6", func := "syndrome/syndromelaw.ReedRules", spec := "reedRules", unfollowed := true, recurses := true, apart := false, narrowed := true }
def ReedRulesUptoSaid : Prop := reedRulesUptoRow.holds Try.pinned (OpenSpec.upto reedRulesSpec)

/-- 'syndromelaw.ReedRulesMade', WHERE WHAT IT READS IS OF BULK AT MOST 1048576: true; the input reads as it did. -/
def reedRulesMadeUptoRow : OpenClaim := { program := "ytnjbnamcedfjaaa", sum := "b9541c4f3d6908d5dfce827a16b5495f97f2a82376d9c579377dcd85258fa9e6", func := "syndrome/syndromelaw.ReedRulesMade", spec := "reedRulesMade", unfollowed := true, recurses := true, apart := false, narrowed := true }
def ReedRulesMadeUptoSaid : Prop := reedRulesMadeUptoRow.holds Try.pinned (OpenSpec.upto reedRulesMadeSpec)

end Rows
end Go.Proofs.Ytnjbnamcedfjaaa
