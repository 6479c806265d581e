/-
  No cell of these rows narrows 'for every input' (looked for: loops, veiled, ifaces, maps, wideKeys, modest, calm, conditions, laid).
  DERIVED. THE GIVEN ROWS OF THIS SEAT. 6 by the template 'for every input the law returns true; each argument reads behind the call as it read before'; 0 by the template 'total and deterministic' (their statements: YthkjaiihlphgfaaTotals.lean).
  GIVEN WITH THE SEED: the statements are not yours to turn. If you find one false, say at which input.
  Laid BY PROGRAM, IN A SANDBOX (cutbox-rows.mjs): the forced cells as the released guide's own fill.sh prints them over the translation e8d65b72e1f83469… (all of the seat's roots in one cut). By AI agents, Wed Nov 11 2026. No macro, syntax, notation, axiom, sorry.
-/
import Derived.Test.YthkjaiihlphgfaaChecked
import GoSem.Claim
import GoSem.ClaimJoined
import GoSem.ClaimMapViews
import Derived.JoinedTies
import Derived.KernelRfl
namespace Go.Proofs.Ythkjaiihlphgfaa
/- THE CELL 'sum', in the pinned program and in every row, IS THE sha256 OF THE DUMP (.gsa) THAT YthkjaiihlphgfaaProg.lean LOADS. Nothing in Lean hashes anything: it is a label: what it is worth is what the hold of that sum in a sandbox is worth. -/
noncomputable def Try.pinned : Pinned := { name := "ythkjaiihlphgfaa", sum := "e8d65b72e1f83469195069b05884b2d6a2152426f887f06bfbb21becba537c11", checked := Try.checked }
namespace Rows
def none {H : Type} : Left H := { results := [], args := [] }

/-- 'syndromelaw.NetSends': WHATEVER THE INPUT: true; the input reads as it did. -/
def netSendsSpec : ChangeSpec := { name := "netSends", fn := fun _ => fun
  | [d1, d2, d3, d4, d5, d6] => { results := [.lit (.bool true)], args := [d1, d2, d3, d4, d5, d6] }
  | _ => none }
def netSendsRow : OpenClaim := { program := "ythkjaiihlphgfaa", sum := "e8d65b72e1f83469195069b05884b2d6a2152426f887f06bfbb21becba537c11", func := "syndrome/syndromelaw.NetSends", spec := "netSends", unfollowed := true, recurses := true, apart := false }
def NetSendsSaid : Prop := netSendsRow.holds Try.pinned (OpenSpec.ofChange netSendsSpec)

/-- ITS FALSE NEIGHBOUR: 'it returns false'. Refute it at one input. -/
def netSendsWrong : ChangeSpec := { name := "netSends", fn := fun _ => fun
  | [d1, d2, d3, d4, d5, d6] => { results := [.lit (.bool false)], args := [d1, d2, d3, d4, d5, d6] }
  | _ => none }
def NetSendsWrongFalsely : Prop := netSendsRow.holds Try.pinned (OpenSpec.ofChange netSendsWrong)

/-- 'syndromelaw.NetSendsMade': WHATEVER THE INPUT: true; the input reads as it did. -/
def netSendsMadeSpec : ChangeSpec := { name := "netSendsMade", fn := fun _ => fun
  | [d1, d2, d3, d4, d5, d6, d7] => { results := [.lit (.bool true)], args := [d1, d2, d3, d4, d5, d6, d7] }
  | _ => none }
def netSendsMadeRow : OpenClaim := { program := "ythkjaiihlphgfaa", sum := "e8d65b72e1f83469195069b05884b2d6a2152426f887f06bfbb21becba537c11", func := "syndrome/syndromelaw.NetSendsMade", spec := "netSendsMade", unfollowed := true, recurses := true, apart := false }
def NetSendsMadeSaid : Prop := netSendsMadeRow.holds Try.pinned (OpenSpec.ofChange netSendsMadeSpec)

/-- ITS FALSE NEIGHBOUR: 'it returns false'. Refute it at one input. -/
def netSendsMadeWrong : ChangeSpec := { name := "netSendsMade", fn := fun _ => fun
  | [d1, d2, d3, d4, d5, d6, d7] => { results := [.lit (.bool false)], args := [d1, d2, d3, d4, d5, d6, d7] }
  | _ => none }
def NetSendsMadeWrongFalsely : Prop := netSendsMadeRow.holds Try.pinned (OpenSpec.ofChange netSendsMadeWrong)

/-- 'syndromelaw.GapSays': WHATEVER THE INPUT: true; the input reads as it did. -/
def gapSaysSpec : ChangeSpec := { name := "gapSays", fn := fun _ => fun
  | [d1, d2, d3, d4] => { results := [.lit (.bool true)], args := [d1, d2, d3, d4] }
  | _ => none }
def gapSaysRow : OpenClaim := { program := "ythkjaiihlphgfaa", sum := "e8d65b72e1f83469195069b05884b2d6a2152426f887f06bfbb21becba537c11", func := "syndrome/syndromelaw.GapSays", spec := "gapSays", unfollowed := true, recurses := true, apart := false }
def GapSaysSaid : Prop := gapSaysRow.holds Try.pinned (OpenSpec.ofChange gapSaysSpec)

/-- ITS FALSE NEIGHBOUR: 'it returns false'. Refute it at one input. -/
def gapSaysWrong : ChangeSpec := { name := "gapSays", fn := fun _ => fun
  | [d1, d2, d3, d4] => { results := [.lit (.bool false)], args := [d1, d2, d3, d4] }
  | _ => none }
def GapSaysWrongFalsely : Prop := gapSaysRow.holds Try.pinned (OpenSpec.ofChange gapSaysWrong)

/-- 'syndromelaw.GapMade': WHATEVER THE INPUT: true; the input reads as it did. -/
def gapMadeSpec : ChangeSpec := { name := "gapMade", fn := fun _ => fun
  | [d1, d2, d3, d4, d5] => { results := [.lit (.bool true)], args := [d1, d2, d3, d4, d5] }
  | _ => none }
def gapMadeRow : OpenClaim := { program := "ythkjaiihlphgfaa", sum := "e8d65b72e1f83469195069b05884b2d6a2152426f887f06bfbb21becba537c11", func := "syndrome/syndromelaw.GapMade", spec := "gapMade", unfollowed := true, recurses := true, apart := false }
def GapMadeSaid : Prop := gapMadeRow.holds Try.pinned (OpenSpec.ofChange gapMadeSpec)

/-- ITS FALSE NEIGHBOUR: 'it returns false'. Refute it at one input. -/
def gapMadeWrong : ChangeSpec := { name := "gapMade", fn := fun _ => fun
  | [d1, d2, d3, d4, d5] => { results := [.lit (.bool false)], args := [d1, d2, d3, d4, d5] }
  | _ => none }
def GapMadeWrongFalsely : Prop := gapMadeRow.holds Try.pinned (OpenSpec.ofChange gapMadeWrong)

/-- 'syndromelaw.DigitsGray': WHATEVER THE INPUT: true; the input reads as it did. -/
def digitsGraySpec : ChangeSpec := { name := "digitsGray", fn := fun _ => fun
  | [d1, d2, d3] => { results := [.lit (.bool true)], args := [d1, d2, d3] }
  | _ => none }
def digitsGrayRow : OpenClaim := { program := "ythkjaiihlphgfaa", sum := "e8d65b72e1f83469195069b05884b2d6a2152426f887f06bfbb21becba537c11", func := "syndrome/syndromelaw.DigitsGray", spec := "digitsGray", recurses := true, apart := false }
def DigitsGraySaid : Prop := digitsGrayRow.holds Try.pinned (OpenSpec.ofChange digitsGraySpec)

/-- ITS FALSE NEIGHBOUR: 'it returns false'. Refute it at one input. -/
def digitsGrayWrong : ChangeSpec := { name := "digitsGray", fn := fun _ => fun
  | [d1, d2, d3] => { results := [.lit (.bool false)], args := [d1, d2, d3] }
  | _ => none }
def DigitsGrayWrongFalsely : Prop := digitsGrayRow.holds Try.pinned (OpenSpec.ofChange digitsGrayWrong)

/-- 'syndromelaw.DigitsRing': WHATEVER THE INPUT: true; the input reads as it did. -/
def digitsRingSpec : ChangeSpec := { name := "digitsRing", fn := fun _ => fun
  | [d1, d2] => { results := [.lit (.bool true)], args := [d1, d2] }
  | _ => none }
def digitsRingRow : OpenClaim := { program := "ythkjaiihlphgfaa", sum := "e8d65b72e1f83469195069b05884b2d6a2152426f887f06bfbb21becba537c11", func := "syndrome/syndromelaw.DigitsRing", spec := "digitsRing", apart := false }
def DigitsRingSaid : Prop := digitsRingRow.holds Try.pinned (OpenSpec.ofChange digitsRingSpec)

/-- ITS FALSE NEIGHBOUR: 'it returns false'. Refute it at one input. -/
def digitsRingWrong : ChangeSpec := { name := "digitsRing", fn := fun _ => fun
  | [d1, d2] => { results := [.lit (.bool false)], args := [d1, d2] }
  | _ => none }
def DigitsRingWrongFalsely : Prop := digitsRingRow.holds Try.pinned (OpenSpec.ofChange digitsRingWrong)

/- THE SECOND FORM. 'bulk': how many values and letters a reading holds, each counted each time it is reached (what is shared counts as often as it is met; a slice's spare places count too). A statement '..UptoSaid' is the law's where the arguments, and the package variables that the reading takes, are together of bulk at most 1048576: NARROWER than '..Said'. Prove '..Said' where nothing that the law and all that it calls make is longer than what came in: it says more and counts as full. Else prove '..UptoSaid'. A law counts once. -/
mutual
def uptoBulk {H : Type} : DataW H → Nat
  | .lit (.string bytes) => bytes.length + 1
  | .lit _ => 1
  | .nil => 1
  | .ptr d => uptoBulk d + 1
  | .slice elems spare => uptoBulkAll elems + uptoBulkAll spare + 1
  | .agg parts => uptoBulkAll parts + 1
  | .iface _ d => uptoBulk d + 1
  | .map entries => uptoBulkEntries entries + 1
  | .held _ => 1
def uptoBulkAll {H : Type} : List (DataW H) → Nat
  | [] => 0
  | d :: r => uptoBulk d + uptoBulkAll r
def uptoBulkEntries {H : Type} : List (Lit × DataW H) → Nat
  | [] => 0
  | x :: r => uptoBulkEntry x + uptoBulkEntries r
def uptoBulkEntry {H : Type} : Lit × DataW H → Nat
  | (.string bytes, d) => bytes.length + uptoBulk d + 1
  | (_, d) => uptoBulk d + 1
 end
def uptoSmall : (H : Type) → List (DataW H) → Bool := fun _ ds => decide (uptoBulkAll ds ≤ 1048576)
def OpenSpec.upto (s : _root_.Go.ChangeSpec) : _root_.Go.OpenSpec := { _root_.Go.OpenSpec.ofChange s with cond := some uptoSmall }

/-- 'syndromelaw.NetSends', WHERE WHAT IT READS IS OF BULK AT MOST 1048576: true; the input reads as it did. -/
def netSendsUptoRow : OpenClaim := { program := "ythkjaiihlphgfaa", sum := "e8d65b72e1f83469195069b05884b2d6a2152426f887f06bfbb21becba537c11", func := "syndrome/syndromelaw.NetSends", spec := "netSends", unfollowed := true, recurses := true, apart := false, narrowed := true }
def NetSendsUptoSaid : Prop := netSendsUptoRow.holds Try.pinned (OpenSpec.upto netSendsSpec)

/-- 'syndromelaw.NetSendsMade', WHERE WHAT IT READS IS OF BULK AT MOST 1048576: true; the input reads as it did. -/
def netSendsMadeUptoRow : OpenClaim := { program := "ythkjaiihlphgfaa", sum := "e8d65b72e1f83469195069b05884b2d6a2152426f887f06bfbb21becba537c11", func := "syndrome/syndromelaw.NetSendsMade", spec := "netSendsMade", unfollowed := true, recurses := true, apart := false, narrowed := true }
def NetSendsMadeUptoSaid : Prop := netSendsMadeUptoRow.holds Try.pinned (OpenSpec.upto netSendsMadeSpec)

/-- 'syndromelaw.GapSays', WHERE WHAT IT READS IS OF BULK AT MOST 1048576: true; the input reads as it did. -/
def gapSaysUptoRow : OpenClaim := { program := "ythkjaiihlphgfaa", sum := "e8d65b72e1f83469195069b05884b2d6a2152426f887f06bfbb21becba537c11", func := "syndrome/syndromelaw.GapSays", spec := "gapSays", unfollowed := true, recurses := true, apart := false, narrowed := true }
def GapSaysUptoSaid : Prop := gapSaysUptoRow.holds Try.pinned (OpenSpec.upto gapSaysSpec)

/-- 'syndromelaw.GapMade', WHERE WHAT IT READS IS OF BULK AT MOST 1048576: true; the input reads as it did. -/
def gapMadeUptoRow : OpenClaim := { program := "ythkjaiihlphgfaa", sum := "e8d65b72e1f83469195069b05884b2d6a2152426f887f06bfbb21becba537c11", func := "syndrome/syndromelaw.GapMade", spec := "gapMade", unfollowed := true, recurses := true, apart := false, narrowed := true }
def GapMadeUptoSaid : Prop := gapMadeUptoRow.holds Try.pinned (OpenSpec.upto gapMadeSpec)

/-- 'syndromelaw.DigitsGray', WHERE WHAT IT READS IS OF BULK AT MOST 1048576: true; the input reads as it did. -/
def digitsGrayUptoRow : OpenClaim := { program := "ythkjaiihlphgfaa", sum := "e8d65b72e1f83469195069b05884b2d6a2152426f887f06bfbb21becba537c11", func := "syndrome/syndromelaw.DigitsGray", spec := "digitsGray", recurses := true, apart := false, narrowed := true }
def DigitsGrayUptoSaid : Prop := digitsGrayUptoRow.holds Try.pinned (OpenSpec.upto digitsGraySpec)

/-- 'syndromelaw.DigitsRing', WHERE WHAT IT READS IS OF BULK AT MOST 1048576: true; the input reads as it did. -/
def digitsRingUptoRow : OpenClaim := { program := "ythkjaiihlphgfaa", sum := "e8d65b72e1f83469195069b05884b2d6a2152426f887f06bfbb21becba537c11", func := "syndrome/syndromelaw.DigitsRing", spec := "digitsRing", apart := false, narrowed := true }
def DigitsRingUptoSaid : Prop := digitsRingUptoRow.holds Try.pinned (OpenSpec.upto digitsRingSpec)

end Rows
end Go.Proofs.Ythkjaiihlphgfaa
