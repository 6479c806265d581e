/-
  No cell of these rows narrows 'for every input' (looked for: loops, veiled, ifaces, maps, wideKeys, modest, calm, conditions, laid).
  DERIVED. THE GIVEN ROWS OF THIS SEAT. 6 by the template 'for every input the law returns true; each argument reads behind the call as it read before'; 0 by the template 'total and deterministic' (their statements: YtmnkablobhdbjaaTotals.lean).
  GIVEN WITH THE SEED: the statements are not yours to turn. If you find one false, say at which input.
  Laid BY PROGRAM, IN A SANDBOX (cutbox-rows.mjs): the forced cells as the released guide's own fill.sh prints them over the translation 7f89644bde07233d… (all of the seat's roots in one cut). By AI agents, Wed Nov 11 2026. No macro, syntax, notation, axiom, sorry.
-/
import Derived.Test.YtmnkablobhdbjaaChecked
import GoSem.Claim
import GoSem.ClaimJoined
import GoSem.ClaimMapViews
import Derived.JoinedTies
import Derived.KernelRfl
namespace Go.Proofs.Ytmnkablobhdbjaa
/- THE CELL 'sum', in the pinned program and in every row, IS THE sha256 OF THE DUMP (.gsa) THAT YtmnkablobhdbjaaProg.lean LOADS. Nothing in Lean hashes anything: it is a label: what it is worth is what the hold of that sum in a sandbox is worth. -/
noncomputable def Try.pinned : Pinned := { name := "ytmnkablobhdbjaa", sum := "7f89644bde07233de8095a9c190f661c8d28671253e64d1b673390bf2c744dbc", checked := Try.checked }
namespace Rows
def none {H : Type} : Left H := { results := [], args := [] }

/-- 'syndromelaw.FieldSays': WHATEVER THE INPUT: true; the input reads as it did. -/
def fieldSaysSpec : ChangeSpec := { name := "fieldSays", fn := fun _ => fun
  | [d1, d2, d3, d4, d5] => { results := [.lit (.bool true)], args := [d1, d2, d3, d4, d5] }
  | _ => none }
def fieldSaysRow : OpenClaim := { program := "ytmnkablobhdbjaa", sum := "7f89644bde07233de8095a9c190f661c8d28671253e64d1b673390bf2c744dbc", func := "syndrome/syndromelaw.FieldSays", spec := "fieldSays", unfollowed := true, recurses := true, apart := false }
def FieldSaysSaid : Prop := fieldSaysRow.holds Try.pinned (OpenSpec.ofChange fieldSaysSpec)

/-- ITS FALSE NEIGHBOUR: 'it returns false'. Refute it at one input. -/
def fieldSaysWrong : ChangeSpec := { name := "fieldSays", fn := fun _ => fun
  | [d1, d2, d3, d4, d5] => { results := [.lit (.bool false)], args := [d1, d2, d3, d4, d5] }
  | _ => none }
def FieldSaysWrongFalsely : Prop := fieldSaysRow.holds Try.pinned (OpenSpec.ofChange fieldSaysWrong)

/-- 'syndromelaw.FieldMade': WHATEVER THE INPUT: true; the input reads as it did. -/
def fieldMadeSpec : ChangeSpec := { name := "fieldMade", fn := fun _ => fun
  | [d1, d2, d3, d4, d5] => { results := [.lit (.bool true)], args := [d1, d2, d3, d4, d5] }
  | _ => none }
def fieldMadeRow : OpenClaim := { program := "ytmnkablobhdbjaa", sum := "7f89644bde07233de8095a9c190f661c8d28671253e64d1b673390bf2c744dbc", func := "syndrome/syndromelaw.FieldMade", spec := "fieldMade", unfollowed := true, recurses := true, apart := false }
def FieldMadeSaid : Prop := fieldMadeRow.holds Try.pinned (OpenSpec.ofChange fieldMadeSpec)

/-- ITS FALSE NEIGHBOUR: 'it returns false'. Refute it at one input. -/
def fieldMadeWrong : ChangeSpec := { name := "fieldMade", fn := fun _ => fun
  | [d1, d2, d3, d4, d5] => { results := [.lit (.bool false)], args := [d1, d2, d3, d4, d5] }
  | _ => none }
def FieldMadeWrongFalsely : Prop := fieldMadeRow.holds Try.pinned (OpenSpec.ofChange fieldMadeWrong)

/-- 'syndromelaw.FieldEmbeds': WHATEVER THE INPUT: true; the input reads as it did. -/
def fieldEmbedsSpec : ChangeSpec := { name := "fieldEmbeds", fn := fun _ => fun
  | [d1, d2] => { results := [.lit (.bool true)], args := [d1, d2] }
  | _ => none }
def fieldEmbedsRow : OpenClaim := { program := "ytmnkablobhdbjaa", sum := "7f89644bde07233de8095a9c190f661c8d28671253e64d1b673390bf2c744dbc", func := "syndrome/syndromelaw.FieldEmbeds", spec := "fieldEmbeds", unfollowed := true, recurses := true, apart := false }
def FieldEmbedsSaid : Prop := fieldEmbedsRow.holds Try.pinned (OpenSpec.ofChange fieldEmbedsSpec)

/-- ITS FALSE NEIGHBOUR: 'it returns false'. Refute it at one input. -/
def fieldEmbedsWrong : ChangeSpec := { name := "fieldEmbeds", fn := fun _ => fun
  | [d1, d2] => { results := [.lit (.bool false)], args := [d1, d2] }
  | _ => none }
def FieldEmbedsWrongFalsely : Prop := fieldEmbedsRow.holds Try.pinned (OpenSpec.ofChange fieldEmbedsWrong)

/-- 'syndromelaw.PolySays': WHATEVER THE INPUT: true; the input reads as it did. -/
def polySaysSpec : ChangeSpec := { name := "polySays", fn := fun _ => fun
  | [d1, d2, d3, d4] => { results := [.lit (.bool true)], args := [d1, d2, d3, d4] }
  | _ => none }
def polySaysRow : OpenClaim := { program := "ytmnkablobhdbjaa", sum := "7f89644bde07233de8095a9c190f661c8d28671253e64d1b673390bf2c744dbc", func := "syndrome/syndromelaw.PolySays", spec := "polySays", unfollowed := true, recurses := true, apart := false }
def PolySaysSaid : Prop := polySaysRow.holds Try.pinned (OpenSpec.ofChange polySaysSpec)

/-- ITS FALSE NEIGHBOUR: 'it returns false'. Refute it at one input. -/
def polySaysWrong : ChangeSpec := { name := "polySays", fn := fun _ => fun
  | [d1, d2, d3, d4] => { results := [.lit (.bool false)], args := [d1, d2, d3, d4] }
  | _ => none }
def PolySaysWrongFalsely : Prop := polySaysRow.holds Try.pinned (OpenSpec.ofChange polySaysWrong)

/-- 'syndromelaw.PolyMade': WHATEVER THE INPUT: true; the input reads as it did. -/
def polyMadeSpec : ChangeSpec := { name := "polyMade", fn := fun _ => fun
  | [d1, d2, d3, d4, d5] => { results := [.lit (.bool true)], args := [d1, d2, d3, d4, d5] }
  | _ => none }
def polyMadeRow : OpenClaim := { program := "ytmnkablobhdbjaa", sum := "7f89644bde07233de8095a9c190f661c8d28671253e64d1b673390bf2c744dbc", func := "syndrome/syndromelaw.PolyMade", spec := "polyMade", unfollowed := true, recurses := true, apart := false }
def PolyMadeSaid : Prop := polyMadeRow.holds Try.pinned (OpenSpec.ofChange polyMadeSpec)

/-- ITS FALSE NEIGHBOUR: 'it returns false'. Refute it at one input. -/
def polyMadeWrong : ChangeSpec := { name := "polyMade", fn := fun _ => fun
  | [d1, d2, d3, d4, d5] => { results := [.lit (.bool false)], args := [d1, d2, d3, d4, d5] }
  | _ => none }
def PolyMadeWrongFalsely : Prop := polyMadeRow.holds Try.pinned (OpenSpec.ofChange polyMadeWrong)

/-- 'syndrometop.TopField': WHATEVER THE INPUT: true; the input reads as it did. -/
def topFieldSpec : ChangeSpec := { name := "topField", fn := fun _ => fun
  | [d1, d2, d3, d4] => { results := [.lit (.bool true)], args := [d1, d2, d3, d4] }
  | _ => none }
def topFieldRow : OpenClaim := { program := "ytmnkablobhdbjaa", sum := "7f89644bde07233de8095a9c190f661c8d28671253e64d1b673390bf2c744dbc", func := "syndrome/syndrometop.TopField", spec := "topField", unfollowed := true, recurses := true, apart := false }
def TopFieldSaid : Prop := topFieldRow.holds Try.pinned (OpenSpec.ofChange topFieldSpec)

/-- ITS FALSE NEIGHBOUR: 'it returns false'. Refute it at one input. -/
def topFieldWrong : ChangeSpec := { name := "topField", fn := fun _ => fun
  | [d1, d2, d3, d4] => { results := [.lit (.bool false)], args := [d1, d2, d3, d4] }
  | _ => none }
def TopFieldWrongFalsely : Prop := topFieldRow.holds Try.pinned (OpenSpec.ofChange topFieldWrong)

/- THE SECOND FORM. 'bulk': how many values and letters a reading holds, each counted each time it is reached (what is shared counts as often as it is met; a slice's spare places count too). A statement '..UptoSaid' is the law's where the arguments, and the package variables that the reading takes, are together of bulk at most 1048576: NARROWER than '..Said'. Prove '..Said' where nothing that the law and all that it calls make is longer than what came in: it says more and counts as full. Else prove '..UptoSaid'. A law counts once. -/
mutual
def uptoBulk {H : Type} : DataW H → Nat
  | .lit (.string bytes) => bytes.length + 1
  | .lit _ => 1
  | .nil => 1
  | .ptr d => uptoBulk d + 1
  | .slice elems spare => uptoBulkAll elems + uptoBulkAll spare + 1
  | .agg parts => uptoBulkAll parts + 1
  | .iface _ d => uptoBulk d + 1
  | .map entries => uptoBulkEntries entries + 1
  | .held _ => 1
def uptoBulkAll {H : Type} : List (DataW H) → Nat
  | [] => 0
  | d :: r => uptoBulk d + uptoBulkAll r
def uptoBulkEntries {H : Type} : List (Lit × DataW H) → Nat
  | [] => 0
  | x :: r => uptoBulkEntry x + uptoBulkEntries r
def uptoBulkEntry {H : Type} : Lit × DataW H → Nat
  | (.string bytes, d) => bytes.length + uptoBulk d + 1
  | (_, d) => uptoBulk d + 1
 end
def uptoSmall : (H : Type) → List (DataW H) → Bool := fun _ ds => decide (uptoBulkAll ds ≤ 1048576)
def OpenSpec.upto (s : _root_.Go.ChangeSpec) : _root_.Go.OpenSpec := { _root_.Go.OpenSpec.ofChange s with cond := some uptoSmall }

/-- 'syndromelaw.FieldSays', WHERE WHAT IT READS IS OF BULK AT MOST 1048576: true; the input reads as it did. -/
def fieldSaysUptoRow : OpenClaim := { program := "ytmnkablobhdbjaa", sum := "7f89644bde07233de8095a9c190f661c8d28671253e64d1b673390bf2c744dbc", func := "syndrome/syndromelaw.FieldSays", spec := "fieldSays", unfollowed := true, recurses := true, apart := false, narrowed := true }
def FieldSaysUptoSaid : Prop := fieldSaysUptoRow.holds Try.pinned (OpenSpec.upto fieldSaysSpec)

/-- 'syndromelaw.FieldMade', WHERE WHAT IT READS IS OF BULK AT MOST 1048576: true; the input reads as it did. -/
def fieldMadeUptoRow : OpenClaim := { program := "ytmnkablobhdbjaa", sum := "7f89644bde07233de8095a9c190f661c8d28671253e64d1b673390bf2c744dbc", func := "syndrome/syndromelaw.FieldMade", spec := "fieldMade", unfollowed := true, recurses := true, apart := false, narrowed := true }
def FieldMadeUptoSaid : Prop := fieldMadeUptoRow.holds Try.pinned (OpenSpec.upto fieldMadeSpec)

/-- 'syndromelaw.FieldEmbeds', WHERE WHAT IT READS IS OF BULK AT MOST 1048576: true; the input reads as it did. -/
def fieldEmbedsUptoRow : OpenClaim := { program := "ytmnkablobhdbjaa", sum := "7f89644bde07233de8095a9c190f661c8d28671253e64d1b673390bf2c744dbc", func := "syndrome/syndromelaw.FieldEmbeds", spec := "fieldEmbeds", unfollowed := true, recurses := true, apart := false, narrowed := true }
def FieldEmbedsUptoSaid : Prop := fieldEmbedsUptoRow.holds Try.pinned (OpenSpec.upto fieldEmbedsSpec)

/-- 'syndromelaw.PolySays', WHERE WHAT IT READS IS OF BULK AT MOST 1048576: true; the input reads as it did. -/
def polySaysUptoRow : OpenClaim := { program := "ytmnkablobhdbjaa", sum := "7f89644bde07233de8095a9c190f661c8d28671253e64d1b673390bf2c744dbc", func := "syndrome/syndromelaw.PolySays", spec := "polySays", unfollowed := true, recurses := true, apart := false, narrowed := true }
def PolySaysUptoSaid : Prop := polySaysUptoRow.holds Try.pinned (OpenSpec.upto polySaysSpec)

/-- 'syndromelaw.PolyMade', WHERE WHAT IT READS IS OF BULK AT MOST 1048576: true; the input reads as it did. -/
def polyMadeUptoRow : OpenClaim := { program := "ytmnkablobhdbjaa", sum := "7f89644bde07233de8095a9c190f661c8d28671253e64d1b673390bf2c744dbc", func := "syndrome/syndromelaw.PolyMade", spec := "polyMade", unfollowed := true, recurses := true, apart := false, narrowed := true }
def PolyMadeUptoSaid : Prop := polyMadeUptoRow.holds Try.pinned (OpenSpec.upto polyMadeSpec)

/-- 'syndrometop.TopField', WHERE WHAT IT READS IS OF BULK AT MOST 1048576: true; the input reads as it did. -/
def topFieldUptoRow : OpenClaim := { program := "ytmnkablobhdbjaa", sum := "7f89644bde07233de8095a9c190f661c8d28671253e64d1b673390bf2c744dbc", func := "syndrome/syndrometop.TopField", spec := "topField", unfollowed := true, recurses := true, apart := false, narrowed := true }
def TopFieldUptoSaid : Prop := topFieldUptoRow.holds Try.pinned (OpenSpec.upto topFieldSpec)

end Rows
end Go.Proofs.Ytmnkablobhdbjaa
