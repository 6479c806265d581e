/-
  No cell of these rows narrows 'for every input' (looked for: loops, veiled, ifaces, maps, wideKeys, modest, calm, conditions, laid).
  DERIVED. THE GIVEN ROWS OF THIS SEAT. 4 by the template 'for every input the law returns true; each argument reads behind the call as it read before'; 0 by the template 'total and deterministic' (their statements: YtbofcldmgjeklaaTotals.lean).
  GIVEN WITH THE SEED: the statements are not yours to turn. If you find one false, say at which input.
  Laid BY PROGRAM, IN A SANDBOX (cutbox-rows.mjs): the forced cells as the released guide's own fill.sh prints them over the translation 1fe0ae9c122fa726… (all of the seat's roots in one cut). By AI agents, Wed Nov 11 2026. No macro, syntax, notation, axiom, sorry.
-/
import Derived.Test.YtbofcldmgjeklaaChecked
import GoSem.Claim
import GoSem.ClaimJoined
import GoSem.ClaimMapViews
import Derived.JoinedTies
import Derived.KernelRfl
namespace Go.Proofs.Ytbofcldmgjeklaa
/- THE CELL 'sum', in the pinned program and in every row, IS THE sha256 OF THE DUMP (.gsa) THAT YtbofcldmgjeklaaProg.lean LOADS. Nothing in Lean hashes anything: it is a label: what it is worth is what the hold of that sum in a sandbox is worth. -/
noncomputable def Try.pinned : Pinned := { name := "ytbofcldmgjeklaa", sum := "1fe0ae9c122fa72693bdf74c4f04d1beb074e443120d7218fad1023133c629cf", checked := Try.checked }
namespace Rows
def none {H : Type} : Left H := { results := [], args := [] }

/-- 'syndromelaw.StoreSays': WHATEVER THE INPUT: true; the input reads as it did. -/
def storeSaysSpec : ChangeSpec := { name := "storeSays", fn := fun _ => fun
  | [d1, d2, d3, d4, d5, d6, d7, d8, d9] => { results := [.lit (.bool true)], args := [d1, d2, d3, d4, d5, d6, d7, d8, d9] }
  | _ => none }
def storeSaysRow : OpenClaim := { program := "ytbofcldmgjeklaa", sum := "1fe0ae9c122fa72693bdf74c4f04d1beb074e443120d7218fad1023133c629cf", func := "syndrome/syndromelaw.StoreSays", spec := "storeSays", unfollowed := true, recurses := true, apart := false }
def StoreSaysSaid : Prop := storeSaysRow.holds Try.pinned (OpenSpec.ofChange storeSaysSpec)

/-- ITS FALSE NEIGHBOUR: 'it returns false'. Refute it at one input. -/
def storeSaysWrong : ChangeSpec := { name := "storeSays", fn := fun _ => fun
  | [d1, d2, d3, d4, d5, d6, d7, d8, d9] => { results := [.lit (.bool false)], args := [d1, d2, d3, d4, d5, d6, d7, d8, d9] }
  | _ => none }
def StoreSaysWrongFalsely : Prop := storeSaysRow.holds Try.pinned (OpenSpec.ofChange storeSaysWrong)

/-- 'syndromelaw.StoreMade': WHATEVER THE INPUT: true; the input reads as it did. -/
def storeMadeSpec : ChangeSpec := { name := "storeMade", fn := fun _ => fun
  | [d1, d2, d3, d4, d5, d6, d7] => { results := [.lit (.bool true)], args := [d1, d2, d3, d4, d5, d6, d7] }
  | _ => none }
def storeMadeRow : OpenClaim := { program := "ytbofcldmgjeklaa", sum := "1fe0ae9c122fa72693bdf74c4f04d1beb074e443120d7218fad1023133c629cf", func := "syndrome/syndromelaw.StoreMade", spec := "storeMade", unfollowed := true, recurses := true, apart := false }
def StoreMadeSaid : Prop := storeMadeRow.holds Try.pinned (OpenSpec.ofChange storeMadeSpec)

/-- ITS FALSE NEIGHBOUR: 'it returns false'. Refute it at one input. -/
def storeMadeWrong : ChangeSpec := { name := "storeMade", fn := fun _ => fun
  | [d1, d2, d3, d4, d5, d6, d7] => { results := [.lit (.bool false)], args := [d1, d2, d3, d4, d5, d6, d7] }
  | _ => none }
def StoreMadeWrongFalsely : Prop := storeMadeRow.holds Try.pinned (OpenSpec.ofChange storeMadeWrong)

/-- 'syndromelaw.MullerSays': WHATEVER THE INPUT: true; the input reads as it did. -/
def mullerSaysSpec : ChangeSpec := { name := "mullerSays", fn := fun _ => fun
  | [d1, d2, d3] => { results := [.lit (.bool true)], args := [d1, d2, d3] }
  | _ => none }
def mullerSaysRow : OpenClaim := { program := "ytbofcldmgjeklaa", sum := "1fe0ae9c122fa72693bdf74c4f04d1beb074e443120d7218fad1023133c629cf", func := "syndrome/syndromelaw.MullerSays", spec := "mullerSays", unfollowed := true, recurses := true, apart := false }
def MullerSaysSaid : Prop := mullerSaysRow.holds Try.pinned (OpenSpec.ofChange mullerSaysSpec)

/-- ITS FALSE NEIGHBOUR: 'it returns false'. Refute it at one input. -/
def mullerSaysWrong : ChangeSpec := { name := "mullerSays", fn := fun _ => fun
  | [d1, d2, d3] => { results := [.lit (.bool false)], args := [d1, d2, d3] }
  | _ => none }
def MullerSaysWrongFalsely : Prop := mullerSaysRow.holds Try.pinned (OpenSpec.ofChange mullerSaysWrong)

/-- 'syndromelaw.MullerMends': WHATEVER THE INPUT: true; the input reads as it did. -/
def mullerMendsSpec : ChangeSpec := { name := "mullerMends", fn := fun _ => fun
  | [d1, d2, d3] => { results := [.lit (.bool true)], args := [d1, d2, d3] }
  | _ => none }
def mullerMendsRow : OpenClaim := { program := "ytbofcldmgjeklaa", sum := "1fe0ae9c122fa72693bdf74c4f04d1beb074e443120d7218fad1023133c629cf", func := "syndrome/syndromelaw.MullerMends", spec := "mullerMends", unfollowed := true, recurses := true, apart := false }
def MullerMendsSaid : Prop := mullerMendsRow.holds Try.pinned (OpenSpec.ofChange mullerMendsSpec)

/-- ITS FALSE NEIGHBOUR: 'it returns false'. Refute it at one input. -/
def mullerMendsWrong : ChangeSpec := { name := "mullerMends", fn := fun _ => fun
  | [d1, d2, d3] => { results := [.lit (.bool false)], args := [d1, d2, d3] }
  | _ => none }
def MullerMendsWrongFalsely : Prop := mullerMendsRow.holds Try.pinned (OpenSpec.ofChange mullerMendsWrong)

/- THE SECOND FORM. 'bulk': how many values and letters a reading holds, each counted each time it is reached (what is shared counts as often as it is met; a slice's spare places count too). A statement '..UptoSaid' is the law's where the arguments, and the package variables that the reading takes, are together of bulk at most 1048576: NARROWER than '..Said'. Prove '..Said' where nothing that the law and all that it calls make is longer than what came in: it says more and counts as full. Else prove '..UptoSaid'. A law counts once. -/
mutual
def uptoBulk {H : Type} : DataW H → Nat
  | .lit (.string bytes) => bytes.length + 1
  | .lit _ => 1
  | .nil => 1
  | .ptr d => uptoBulk d + 1
  | .slice elems spare => uptoBulkAll elems + uptoBulkAll spare + 1
  | .agg parts => uptoBulkAll parts + 1
  | .iface _ d => uptoBulk d + 1
  | .map entries => uptoBulkEntries entries + 1
  | .held _ => 1
def uptoBulkAll {H : Type} : List (DataW H) → Nat
  | [] => 0
  | d :: r => uptoBulk d + uptoBulkAll r
def uptoBulkEntries {H : Type} : List (Lit × DataW H) → Nat
  | [] => 0
  | x :: r => uptoBulkEntry x + uptoBulkEntries r
def uptoBulkEntry {H : Type} : Lit × DataW H → Nat
  | (.string bytes, d) => bytes.length + uptoBulk d + 1
  | (_, d) => uptoBulk d + 1
 end
def uptoSmall : (H : Type) → List (DataW H) → Bool := fun _ ds => decide (uptoBulkAll ds ≤ 1048576)
def OpenSpec.upto (s : _root_.Go.ChangeSpec) : _root_.Go.OpenSpec := { _root_.Go.OpenSpec.ofChange s with cond := some uptoSmall }

/-- 'syndromelaw.StoreSays', WHERE WHAT IT READS IS OF BULK AT MOST 1048576: true; the input reads as it did. -/
def storeSaysUptoRow : OpenClaim := { program := "ytbofcldmgjeklaa", sum := "1fe0ae9c122fa72693bdf74c4f04d1beb074e443120d7218fad1023133c629cf", func := "syndrome/syndromelaw.StoreSays", spec := "storeSays", unfollowed := true, recurses := true, apart := false, narrowed := true }
def StoreSaysUptoSaid : Prop := storeSaysUptoRow.holds Try.pinned (OpenSpec.upto storeSaysSpec)

/-- 'syndromelaw.StoreMade', WHERE WHAT IT READS IS OF BULK AT MOST 1048576: true; the input reads as it did. -/
def storeMadeUptoRow : OpenClaim := { program := "ytbofcldmgjeklaa", sum := "1fe0ae9c122fa72693bdf74c4f04d1beb074e443120d7218fad1023133c629cf", func := "syndrome/syndromelaw.StoreMade", spec := "storeMade", unfollowed := true, recurses := true, apart := false, narrowed := true }
def StoreMadeUptoSaid : Prop := storeMadeUptoRow.holds Try.pinned (OpenSpec.upto storeMadeSpec)

/-- 'syndromelaw.MullerSays', WHERE WHAT IT READS IS OF BULK AT MOST 1048576: true; the input reads as it did. -/
def mullerSaysUptoRow : OpenClaim := { program := "ytbofcldmgjeklaa", sum := "1fe0ae9c122fa72693bdf74c4f04d1beb074e443120d7218fad1023133c629cf", func := "syndrome/syndromelaw.MullerSays", spec := "mullerSays", unfollowed := true, recurses := true, apart := false, narrowed := true }
def MullerSaysUptoSaid : Prop := mullerSaysUptoRow.holds Try.pinned (OpenSpec.upto mullerSaysSpec)

/-- 'syndromelaw.MullerMends', WHERE WHAT IT READS IS OF BULK AT MOST 1048576: true; the input reads as it did. -/
def mullerMendsUptoRow : OpenClaim := { program := "ytbofcldmgjeklaa", sum := "1fe0ae9c122fa72693bdf74c4f04d1beb074e443120d7218fad1023133c629cf", func := "syndrome/syndromelaw.MullerMends", spec := "mullerMends", unfollowed := true, recurses := true, apart := false, narrowed := true }
def MullerMendsUptoSaid : Prop := mullerMendsUptoRow.holds Try.pinned (OpenSpec.upto mullerMendsSpec)

end Rows
end Go.Proofs.Ytbofcldmgjeklaa
