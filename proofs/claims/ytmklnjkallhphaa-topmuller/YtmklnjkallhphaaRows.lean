/-
  No cell of these rows narrows 'for every input' (looked for: loops, veiled, ifaces, maps, wideKeys, modest, calm, conditions, laid).
  DERIVED. THE GIVEN ROWS OF THIS SEAT. 4 by the template 'for every input the law returns true; each argument reads behind the call as it read before'; 0 by the template 'total and deterministic' (their statements: YtmklnjkallhphaaTotals.lean).
  GIVEN WITH THE SEED: the statements are not yours to turn. If you find one false, say at which input.
  Laid BY PROGRAM, IN A SANDBOX (cutbox-rows.mjs): the forced cells as the released guide's own fill.sh prints them over the translation f418e2853add79c7… (all of the seat's roots in one cut). By AI agents, Wed Nov 11 2026. No macro, syntax, notation, axiom, sorry.
-/
import Derived.Test.YtmklnjkallhphaaChecked
import GoSem.Claim
import GoSem.ClaimJoined
import GoSem.ClaimMapViews
import Derived.JoinedTies
import Derived.KernelRfl
namespace Go.Proofs.Ytmklnjkallhphaa
/- THE CELL 'sum', in the pinned program and in every row, IS THE sha256 OF THE DUMP (.gsa) THAT YtmklnjkallhphaaProg.lean LOADS. Nothing in Lean hashes anything: it is a label: what it is worth is what the hold of that sum in a sandbox is worth. -/
noncomputable def Try.pinned : Pinned := { name := "ytmklnjkallhphaa", sum := "f418e2853add79c7acee0707b53918e64def519ac4e38fe0a23ff2473e226314", checked := Try.checked }
namespace Rows
def none {H : Type} : Left H := { results := [], args := [] }

/-- 'syndromelaw.MullerSays': WHATEVER THE INPUT: true; the input reads as it did. -/
def mullerSaysSpec : ChangeSpec := { name := "mullerSays", fn := fun _ => fun
  | [d1, d2, d3] => { results := [.lit (.bool true)], args := [d1, d2, d3] }
  | _ => none }
def mullerSaysRow : OpenClaim := { program := "ytmklnjkallhphaa", sum := "f418e2853add79c7acee0707b53918e64def519ac4e38fe0a23ff2473e226314", func := "syndrome/syndromelaw.MullerSays", spec := "mullerSays", unfollowed := true, recurses := true, apart := false }
def MullerSaysSaid : Prop := mullerSaysRow.holds Try.pinned (OpenSpec.ofChange mullerSaysSpec)

/-- ITS FALSE NEIGHBOUR: 'it returns false'. Refute it at one input. -/
def mullerSaysWrong : ChangeSpec := { name := "mullerSays", fn := fun _ => fun
  | [d1, d2, d3] => { results := [.lit (.bool false)], args := [d1, d2, d3] }
  | _ => none }
def MullerSaysWrongFalsely : Prop := mullerSaysRow.holds Try.pinned (OpenSpec.ofChange mullerSaysWrong)

/-- 'syndromelaw.MullerMends': WHATEVER THE INPUT: true; the input reads as it did. -/
def mullerMendsSpec : ChangeSpec := { name := "mullerMends", fn := fun _ => fun
  | [d1, d2, d3] => { results := [.lit (.bool true)], args := [d1, d2, d3] }
  | _ => none }
def mullerMendsRow : OpenClaim := { program := "ytmklnjkallhphaa", sum := "f418e2853add79c7acee0707b53918e64def519ac4e38fe0a23ff2473e226314", func := "syndrome/syndromelaw.MullerMends", spec := "mullerMends", unfollowed := true, recurses := true, apart := false }
def MullerMendsSaid : Prop := mullerMendsRow.holds Try.pinned (OpenSpec.ofChange mullerMendsSpec)

/-- ITS FALSE NEIGHBOUR: 'it returns false'. Refute it at one input. -/
def mullerMendsWrong : ChangeSpec := { name := "mullerMends", fn := fun _ => fun
  | [d1, d2, d3] => { results := [.lit (.bool false)], args := [d1, d2, d3] }
  | _ => none }
def MullerMendsWrongFalsely : Prop := mullerMendsRow.holds Try.pinned (OpenSpec.ofChange mullerMendsWrong)

/-- 'syndromelaw.MullerMade': WHATEVER THE INPUT: true; the input reads as it did. -/
def mullerMadeSpec : ChangeSpec := { name := "mullerMade", fn := fun _ => fun
  | [d1, d2, d3, d4] => { results := [.lit (.bool true)], args := [d1, d2, d3, d4] }
  | _ => none }
def mullerMadeRow : OpenClaim := { program := "ytmklnjkallhphaa", sum := "f418e2853add79c7acee0707b53918e64def519ac4e38fe0a23ff2473e226314", func := "syndrome/syndromelaw.MullerMade", spec := "mullerMade", unfollowed := true, recurses := true, apart := false }
def MullerMadeSaid : Prop := mullerMadeRow.holds Try.pinned (OpenSpec.ofChange mullerMadeSpec)

/-- ITS FALSE NEIGHBOUR: 'it returns false'. Refute it at one input. -/
def mullerMadeWrong : ChangeSpec := { name := "mullerMade", fn := fun _ => fun
  | [d1, d2, d3, d4] => { results := [.lit (.bool false)], args := [d1, d2, d3, d4] }
  | _ => none }
def MullerMadeWrongFalsely : Prop := mullerMadeRow.holds Try.pinned (OpenSpec.ofChange mullerMadeWrong)

/-- 'syndrometop.TopMuller': WHATEVER THE INPUT: true; the input reads as it did. -/
def topMullerSpec : ChangeSpec := { name := "topMuller", fn := fun _ => fun
  | [d1, d2, d3, d4] => { results := [.lit (.bool true)], args := [d1, d2, d3, d4] }
  | _ => none }
def topMullerRow : OpenClaim := { program := "ytmklnjkallhphaa", sum := "f418e2853add79c7acee0707b53918e64def519ac4e38fe0a23ff2473e226314", func := "syndrome/syndrometop.TopMuller", spec := "topMuller", unfollowed := true, recurses := true, apart := false }
def TopMullerSaid : Prop := topMullerRow.holds Try.pinned (OpenSpec.ofChange topMullerSpec)

/-- ITS FALSE NEIGHBOUR: 'it returns false'. Refute it at one input. -/
def topMullerWrong : ChangeSpec := { name := "topMuller", fn := fun _ => fun
  | [d1, d2, d3, d4] => { results := [.lit (.bool false)], args := [d1, d2, d3, d4] }
  | _ => none }
def TopMullerWrongFalsely : Prop := topMullerRow.holds Try.pinned (OpenSpec.ofChange topMullerWrong)

/- THE SECOND FORM. 'bulk': how many values and letters a reading holds, each counted each time it is reached (what is shared counts as often as it is met; a slice's spare places count too). A statement '..UptoSaid' is the law's where the arguments, and the package variables that the reading takes, are together of bulk at most 1048576: NARROWER than '..Said'. Prove '..Said' where nothing that the law and all that it calls make is longer than what came in: it says more and counts as full. Else prove '..UptoSaid'. A law counts once. -/
mutual
def uptoBulk {H : Type} : DataW H → Nat
  | .lit (.string bytes) => bytes.length + 1
  | .lit _ => 1
  | .nil => 1
  | .ptr d => uptoBulk d + 1
  | .slice elems spare => uptoBulkAll elems + uptoBulkAll spare + 1
  | .agg parts => uptoBulkAll parts + 1
  | .iface _ d => uptoBulk d + 1
  | .map entries => uptoBulkEntries entries + 1
  | .held _ => 1
def uptoBulkAll {H : Type} : List (DataW H) → Nat
  | [] => 0
  | d :: r => uptoBulk d + uptoBulkAll r
def uptoBulkEntries {H : Type} : List (Lit × DataW H) → Nat
  | [] => 0
  | x :: r => uptoBulkEntry x + uptoBulkEntries r
def uptoBulkEntry {H : Type} : Lit × DataW H → Nat
  | (.string bytes, d) => bytes.length + uptoBulk d + 1
  | (_, d) => uptoBulk d + 1
 end
def uptoSmall : (H : Type) → List (DataW H) → Bool := fun _ ds => decide (uptoBulkAll ds ≤ 1048576)
def OpenSpec.upto (s : _root_.Go.ChangeSpec) : _root_.Go.OpenSpec := { _root_.Go.OpenSpec.ofChange s with cond := some uptoSmall }

/-- 'syndromelaw.MullerSays', WHERE WHAT IT READS IS OF BULK AT MOST 1048576: true; the input reads as it did. -/
def mullerSaysUptoRow : OpenClaim := { program := "ytmklnjkallhphaa", sum := "f418e2853add79c7acee0707b53918e64def519ac4e38fe0a23ff2473e226314", func := "syndrome/syndromelaw.MullerSays", spec := "mullerSays", unfollowed := true, recurses := true, apart := false, narrowed := true }
def MullerSaysUptoSaid : Prop := mullerSaysUptoRow.holds Try.pinned (OpenSpec.upto mullerSaysSpec)

/-- 'syndromelaw.MullerMends', WHERE WHAT IT READS IS OF BULK AT MOST 1048576: true; the input reads as it did. -/
def mullerMendsUptoRow : OpenClaim := { program := "ytmklnjkallhphaa", sum := "f418e2853add79c7acee0707b53918e64def519ac4e38fe0a23ff2473e226314", func := "syndrome/syndromelaw.MullerMends", spec := "mullerMends", unfollowed := true, recurses := true, apart := false, narrowed := true }
def MullerMendsUptoSaid : Prop := mullerMendsUptoRow.holds Try.pinned (OpenSpec.upto mullerMendsSpec)

/-- 'syndromelaw.MullerMade', WHERE WHAT IT READS IS OF BULK AT MOST 1048576: true; the input reads as it did. -/
def mullerMadeUptoRow : OpenClaim := { program := "ytmklnjkallhphaa", sum := "f418e2853add79c7acee0707b53918e64def519ac4e38fe0a23ff2473e226314", func := "syndrome/syndromelaw.MullerMade", spec := "mullerMade", unfollowed := true, recurses := true, apart := false, narrowed := true }
def MullerMadeUptoSaid : Prop := mullerMadeUptoRow.holds Try.pinned (OpenSpec.upto mullerMadeSpec)

/-- 'syndrometop.TopMuller', WHERE WHAT IT READS IS OF BULK AT MOST 1048576: true; the input reads as it did. -/
def topMullerUptoRow : OpenClaim := { program := "ytmklnjkallhphaa", sum := "f418e2853add79c7acee0707b53918e64def519ac4e38fe0a23ff2473e226314", func := "syndrome/syndrometop.TopMuller", spec := "topMuller", unfollowed := true, recurses := true, apart := false, narrowed := true }
def TopMullerUptoSaid : Prop := topMullerUptoRow.holds Try.pinned (OpenSpec.upto topMullerSpec)

end Rows
end Go.Proofs.Ytmklnjkallhphaa
