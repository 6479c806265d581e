/-
  No cell of these rows narrows 'for every input' (looked for: loops, veiled, ifaces, maps, wideKeys, modest, calm, conditions, laid).
  DERIVED. THE GIVEN ROWS OF THIS SEAT. 6 by the template 'for every input the law returns true; each argument reads behind the call as it read before'; 0 by the template 'total and deterministic' (their statements: YtmbglikcanchbadTotals.lean).
  GIVEN WITH THE SEED: the statements are not yours to turn. If you find one false, say at which input.
  Laid BY PROGRAM, IN A SANDBOX (cutbox-rows.mjs): the forced cells as the released guide's own fill.sh prints them over the translation 782339df0de7d59d… (all of the seat's roots in one cut). By AI agents, Wed Nov 11 2026. No macro, syntax, notation, axiom, sorry.
-/
import Derived.Test.YtmbglikcanchbadChecked
import GoSem.Claim
import GoSem.ClaimJoined
import GoSem.ClaimMapViews
import Derived.JoinedTies
import Derived.KernelRfl
namespace Go.Proofs.Ytmbglikcanchbad
/- THE CELL 'sum', in the pinned program and in every row, IS THE sha256 OF THE DUMP (.gsa) THAT YtmbglikcanchbadProg.lean LOADS. Nothing in Lean hashes anything: it is a label: what it is worth is what the hold of that sum in a sandbox is worth. -/
noncomputable def Try.pinned : Pinned := { name := "ytmbglikcanchbad", sum := "782339df0de7d59df0c73c77c33512d6c3d3eab25781df00771029120a1e153e", checked := Try.checked }
namespace Rows
def none {H : Type} : Left H := { results := [], args := [] }

/-- 'syndromelaw.ReedRules': WHATEVER THE INPUT: true; the input reads as it did. -/
def reedRulesSpec : ChangeSpec := { name := "reedRules", fn := fun _ => fun
  | [d1, d2] => { results := [.lit (.bool true)], args := [d1, d2] }
  | _ => none }
def reedRulesRow : OpenClaim := { program := "ytmbglikcanchbad", sum := "782339df0de7d59df0c73c77c33512d6c3d3eab25781df00771029120a1e153e", func := "syndrome/syndromelaw.ReedRules", spec := "reedRules", unfollowed := true, recurses := true, apart := false }
def ReedRulesSaid : Prop := reedRulesRow.holds Try.pinned (OpenSpec.ofChange reedRulesSpec)

/-- ITS FALSE NEIGHBOUR: 'it returns false'. Refute it at one input. -/
def reedRulesWrong : ChangeSpec := { name := "reedRules", fn := fun _ => fun
  | [d1, d2] => { results := [.lit (.bool false)], args := [d1, d2] }
  | _ => none }
def ReedRulesWrongFalsely : Prop := reedRulesRow.holds Try.pinned (OpenSpec.ofChange reedRulesWrong)

/-- 'syndromelaw.ReedRulesMade': WHATEVER THE INPUT: true; the input reads as it did. -/
def reedRulesMadeSpec : ChangeSpec := { name := "reedRulesMade", fn := fun _ => fun
  | [d1, d2, d3] => { results := [.lit (.bool true)], args := [d1, d2, d3] }
  | _ => none }
def reedRulesMadeRow : OpenClaim := { program := "ytmbglikcanchbad", sum := "782339df0de7d59df0c73c77c33512d6c3d3eab25781df00771029120a1e153e", func := "syndrome/syndromelaw.ReedRulesMade", spec := "reedRulesMade", unfollowed := true, recurses := true, apart := false }
def ReedRulesMadeSaid : Prop := reedRulesMadeRow.holds Try.pinned (OpenSpec.ofChange reedRulesMadeSpec)

/-- ITS FALSE NEIGHBOUR: 'it returns false'. Refute it at one input. -/
def reedRulesMadeWrong : ChangeSpec := { name := "reedRulesMade", fn := fun _ => fun
  | [d1, d2, d3] => { results := [.lit (.bool false)], args := [d1, d2, d3] }
  | _ => none }
def ReedRulesMadeWrongFalsely : Prop := reedRulesMadeRow.holds Try.pinned (OpenSpec.ofChange reedRulesMadeWrong)

/-- 'syndromelaw.ListsSay': WHATEVER THE INPUT: true; the input reads as it did. -/
def listsSaySpec : ChangeSpec := { name := "listsSay", fn := fun _ => fun
  | [d1, d2, d3, d4, d5, d6] => { results := [.lit (.bool true)], args := [d1, d2, d3, d4, d5, d6] }
  | _ => none }
def listsSayRow : OpenClaim := { program := "ytmbglikcanchbad", sum := "782339df0de7d59df0c73c77c33512d6c3d3eab25781df00771029120a1e153e", func := "syndrome/syndromelaw.ListsSay", spec := "listsSay", unfollowed := true, recurses := true, apart := false }
def ListsSaySaid : Prop := listsSayRow.holds Try.pinned (OpenSpec.ofChange listsSaySpec)

/-- ITS FALSE NEIGHBOUR: 'it returns false'. Refute it at one input. -/
def listsSayWrong : ChangeSpec := { name := "listsSay", fn := fun _ => fun
  | [d1, d2, d3, d4, d5, d6] => { results := [.lit (.bool false)], args := [d1, d2, d3, d4, d5, d6] }
  | _ => none }
def ListsSayWrongFalsely : Prop := listsSayRow.holds Try.pinned (OpenSpec.ofChange listsSayWrong)

/-- 'syndromelaw.ListsMade': WHATEVER THE INPUT: true; the input reads as it did. -/
def listsMadeSpec : ChangeSpec := { name := "listsMade", fn := fun _ => fun
  | [d1, d2, d3, d4, d5, d6] => { results := [.lit (.bool true)], args := [d1, d2, d3, d4, d5, d6] }
  | _ => none }
def listsMadeRow : OpenClaim := { program := "ytmbglikcanchbad", sum := "782339df0de7d59df0c73c77c33512d6c3d3eab25781df00771029120a1e153e", func := "syndrome/syndromelaw.ListsMade", spec := "listsMade", unfollowed := true, recurses := true, apart := false }
def ListsMadeSaid : Prop := listsMadeRow.holds Try.pinned (OpenSpec.ofChange listsMadeSpec)

/-- ITS FALSE NEIGHBOUR: 'it returns false'. Refute it at one input. -/
def listsMadeWrong : ChangeSpec := { name := "listsMade", fn := fun _ => fun
  | [d1, d2, d3, d4, d5, d6] => { results := [.lit (.bool false)], args := [d1, d2, d3, d4, d5, d6] }
  | _ => none }
def ListsMadeWrongFalsely : Prop := listsMadeRow.holds Try.pinned (OpenSpec.ofChange listsMadeWrong)

/-- 'syndromelaw.ListsCurve': WHATEVER THE INPUT: true; the input reads as it did. -/
def listsCurveSpec : ChangeSpec := { name := "listsCurve", fn := fun _ => fun
  | [d1, d2, d3] => { results := [.lit (.bool true)], args := [d1, d2, d3] }
  | _ => none }
def listsCurveRow : OpenClaim := { program := "ytmbglikcanchbad", sum := "782339df0de7d59df0c73c77c33512d6c3d3eab25781df00771029120a1e153e", func := "syndrome/syndromelaw.ListsCurve", spec := "listsCurve", unfollowed := true, recurses := true, apart := false }
def ListsCurveSaid : Prop := listsCurveRow.holds Try.pinned (OpenSpec.ofChange listsCurveSpec)

/-- ITS FALSE NEIGHBOUR: 'it returns false'. Refute it at one input. -/
def listsCurveWrong : ChangeSpec := { name := "listsCurve", fn := fun _ => fun
  | [d1, d2, d3] => { results := [.lit (.bool false)], args := [d1, d2, d3] }
  | _ => none }
def ListsCurveWrongFalsely : Prop := listsCurveRow.holds Try.pinned (OpenSpec.ofChange listsCurveWrong)

/-- 'syndromelaw.GolayIs': WHATEVER THE INPUT: true; the input reads as it did. -/
def golayIsSpec : ChangeSpec := { name := "golayIs", fn := fun _ => fun
  | [] => { results := [.lit (.bool true)], args := [] }
  | _ => none }
def golayIsRow : OpenClaim := { program := "ytmbglikcanchbad", sum := "782339df0de7d59df0c73c77c33512d6c3d3eab25781df00771029120a1e153e", func := "syndrome/syndromelaw.GolayIs", spec := "golayIs", unfollowed := true, recurses := true, apart := false }
def GolayIsSaid : Prop := golayIsRow.holds Try.pinned (OpenSpec.ofChange golayIsSpec)

/-- ITS FALSE NEIGHBOUR: 'it returns false'. Refute it at one input. -/
def golayIsWrong : ChangeSpec := { name := "golayIs", fn := fun _ => fun
  | [] => { results := [.lit (.bool false)], args := [] }
  | _ => none }
def GolayIsWrongFalsely : Prop := golayIsRow.holds Try.pinned (OpenSpec.ofChange golayIsWrong)

/- THE SECOND FORM. 'bulk': how many values and letters a reading holds, each counted each time it is reached (what is shared counts as often as it is met; a slice's spare places count too). A statement '..UptoSaid' is the law's where the arguments, and the package variables that the reading takes, are together of bulk at most 1048576: NARROWER than '..Said'. Prove '..Said' where nothing that the law and all that it calls make is longer than what came in: it says more and counts as full. Else prove '..UptoSaid'. A law counts once. -/
mutual
def uptoBulk {H : Type} : DataW H → Nat
  | .lit (.string bytes) => bytes.length + 1
  | .lit _ => 1
  | .nil => 1
  | .ptr d => uptoBulk d + 1
  | .slice elems spare => uptoBulkAll elems + uptoBulkAll spare + 1
  | .agg parts => uptoBulkAll parts + 1
  | .iface _ d => uptoBulk d + 1
  | .map entries => uptoBulkEntries entries + 1
  | .held _ => 1
def uptoBulkAll {H : Type} : List (DataW H) → Nat
  | [] => 0
  | d :: r => uptoBulk d + uptoBulkAll r
def uptoBulkEntries {H : Type} : List (Lit × DataW H) → Nat
  | [] => 0
  | x :: r => uptoBulkEntry x + uptoBulkEntries r
def uptoBulkEntry {H : Type} : Lit × DataW H → Nat
  | (.string bytes, d) => bytes.length + uptoBulk d + 1
  | (_, d) => uptoBulk d + 1
 end
def uptoSmall : (H : Type) → List (DataW H) → Bool := fun _ ds => decide (uptoBulkAll ds ≤ 1048576)
def OpenSpec.upto (s : _root_.Go.ChangeSpec) : _root_.Go.OpenSpec := { _root_.Go.OpenSpec.ofChange s with cond := some uptoSmall }

/-- 'syndromelaw.ReedRules', WHERE WHAT IT READS IS OF BULK AT MOST 1048576: true; the input reads as it did. -/
def reedRulesUptoRow : OpenClaim := { program := "ytmbglikcanchbad", sum := "782339df0de7d59df0c73c77c33512d6c3d3eab25781df00771029120a1e153e", func := "syndrome/syndromelaw.ReedRules", spec := "reedRules", unfollowed := true, recurses := true, apart := false, narrowed := true }
def ReedRulesUptoSaid : Prop := reedRulesUptoRow.holds Try.pinned (OpenSpec.upto reedRulesSpec)

/-- 'syndromelaw.ReedRulesMade', WHERE WHAT IT READS IS OF BULK AT MOST 1048576: true; the input reads as it did. -/
def reedRulesMadeUptoRow : OpenClaim := { program := "ytmbglikcanchbad", sum := "782339df0de7d59df0c73c77c33512d6c3d3eab25781df00771029120a1e153e", func := "syndrome/syndromelaw.ReedRulesMade", spec := "reedRulesMade", unfollowed := true, recurses := true, apart := false, narrowed := true }
def ReedRulesMadeUptoSaid : Prop := reedRulesMadeUptoRow.holds Try.pinned (OpenSpec.upto reedRulesMadeSpec)

/-- 'syndromelaw.ListsSay', WHERE WHAT IT READS IS OF BULK AT MOST 1048576: true; the input reads as it did. -/
def listsSayUptoRow : OpenClaim := { program := "ytmbglikcanchbad", sum := "782339df0de7d59df0c73c77c33512d6c3d3eab25781df00771029120a1e153e", func := "syndrome/syndromelaw.ListsSay", spec := "listsSay", unfollowed := true, recurses := true, apart := false, narrowed := true }
def ListsSayUptoSaid : Prop := listsSayUptoRow.holds Try.pinned (OpenSpec.upto listsSaySpec)

/-- 'syndromelaw.ListsMade', WHERE WHAT IT READS IS OF BULK AT MOST 1048576: true; the input reads as it did. -/
def listsMadeUptoRow : OpenClaim := { program := "ytmbglikcanchbad", sum := "782339df0de7d59df0c73c77c33512d6c3d3eab25781df00771029120a1e153e", func := "syndrome/syndromelaw.ListsMade", spec := "listsMade", unfollowed := true, recurses := true, apart := false, narrowed := true }
def ListsMadeUptoSaid : Prop := listsMadeUptoRow.holds Try.pinned (OpenSpec.upto listsMadeSpec)

/-- 'syndromelaw.ListsCurve', WHERE WHAT IT READS IS OF BULK AT MOST 1048576: true; the input reads as it did. -/
def listsCurveUptoRow : OpenClaim := { program := "ytmbglikcanchbad", sum := "782339df0de7d59df0c73c77c33512d6c3d3eab25781df00771029120a1e153e", func := "syndrome/syndromelaw.ListsCurve", spec := "listsCurve", unfollowed := true, recurses := true, apart := false, narrowed := true }
def ListsCurveUptoSaid : Prop := listsCurveUptoRow.holds Try.pinned (OpenSpec.upto listsCurveSpec)

/-- 'syndromelaw.GolayIs', WHERE WHAT IT READS IS OF BULK AT MOST 1048576: true; the input reads as it did. -/
def golayIsUptoRow : OpenClaim := { program := "ytmbglikcanchbad", sum := "782339df0de7d59df0c73c77c33512d6c3d3eab25781df00771029120a1e153e", func := "syndrome/syndromelaw.GolayIs", spec := "golayIs", unfollowed := true, recurses := true, apart := false, narrowed := true }
def GolayIsUptoSaid : Prop := golayIsUptoRow.holds Try.pinned (OpenSpec.upto golayIsSpec)

end Rows
end Go.Proofs.Ytmbglikcanchbad
