/-
  No cell of these rows narrows 'for every input' (looked for: loops, veiled, ifaces, maps, wideKeys, modest, calm, conditions, laid).
  DERIVED. THE GIVEN ROWS OF THIS SEAT. 4 by the template 'for every input the law returns true; each argument reads behind the call as it read before'; 0 by the template 'total and deterministic' (their statements: YtcgmllamiaflcaaTotals.lean).
  GIVEN WITH THE SEED: the statements are not yours to turn. If you find one false, say at which input.
  Laid BY PROGRAM, IN A SANDBOX (cutbox-rows.mjs): the forced cells as the released guide's own fill.sh prints them over the translation b8c6841ed2c8825c… (all of the seat's roots in one cut). By AI agents, Wed Nov 11 2026. No macro, syntax, notation, axiom, sorry.
-/
import Derived.Test.YtcgmllamiaflcaaChecked
import GoSem.Claim
import GoSem.ClaimJoined
import GoSem.ClaimMapViews
import Derived.JoinedTies
import Derived.KernelRfl
namespace Go.Proofs.Ytcgmllamiaflcaa
/- THE CELL 'sum', in the pinned program and in every row, IS THE sha256 OF THE DUMP (.gsa) THAT YtcgmllamiaflcaaProg.lean LOADS. Nothing in Lean hashes anything: it is a label: what it is worth is what the hold of that sum in a sandbox is worth. -/
noncomputable def Try.pinned : Pinned := { name := "ytcgmllamiaflcaa", sum := "b8c6841ed2c8825c1a4027e335959a8e9ec7c343bc0562713e36d5c0f6e73194", checked := Try.checked }
namespace Rows
def none {H : Type} : Left H := { results := [], args := [] }

/-- 'syndrometop.TopMends': WHATEVER THE INPUT: true; the input reads as it did. -/
def topMendsSpec : ChangeSpec := { name := "topMends", fn := fun _ => fun
  | [d1, d2, d3, d4, d5, d6] => { results := [.lit (.bool true)], args := [d1, d2, d3, d4, d5, d6] }
  | _ => none }
def topMendsRow : OpenClaim := { program := "ytcgmllamiaflcaa", sum := "b8c6841ed2c8825c1a4027e335959a8e9ec7c343bc0562713e36d5c0f6e73194", func := "syndrome/syndrometop.TopMends", spec := "topMends", unfollowed := true, recurses := true, apart := false }
def TopMendsSaid : Prop := topMendsRow.holds Try.pinned (OpenSpec.ofChange topMendsSpec)

/-- ITS FALSE NEIGHBOUR: 'it returns false'. Refute it at one input. -/
def topMendsWrong : ChangeSpec := { name := "topMends", fn := fun _ => fun
  | [d1, d2, d3, d4, d5, d6] => { results := [.lit (.bool false)], args := [d1, d2, d3, d4, d5, d6] }
  | _ => none }
def TopMendsWrongFalsely : Prop := topMendsRow.holds Try.pinned (OpenSpec.ofChange topMendsWrong)

/-- 'syndrometop.TopApart': WHATEVER THE INPUT: true; the input reads as it did. -/
def topApartSpec : ChangeSpec := { name := "topApart", fn := fun _ => fun
  | [d1, d2, d3, d4, d5] => { results := [.lit (.bool true)], args := [d1, d2, d3, d4, d5] }
  | _ => none }
def topApartRow : OpenClaim := { program := "ytcgmllamiaflcaa", sum := "b8c6841ed2c8825c1a4027e335959a8e9ec7c343bc0562713e36d5c0f6e73194", func := "syndrome/syndrometop.TopApart", spec := "topApart", unfollowed := true, recurses := true, apart := false }
def TopApartSaid : Prop := topApartRow.holds Try.pinned (OpenSpec.ofChange topApartSpec)

/-- ITS FALSE NEIGHBOUR: 'it returns false'. Refute it at one input. -/
def topApartWrong : ChangeSpec := { name := "topApart", fn := fun _ => fun
  | [d1, d2, d3, d4, d5] => { results := [.lit (.bool false)], args := [d1, d2, d3, d4, d5] }
  | _ => none }
def TopApartWrongFalsely : Prop := topApartRow.holds Try.pinned (OpenSpec.ofChange topApartWrong)

/-- 'syndrometop.TopMassey': WHATEVER THE INPUT: true; the input reads as it did. -/
def topMasseySpec : ChangeSpec := { name := "topMassey", fn := fun _ => fun
  | [d1, d2, d3, d4] => { results := [.lit (.bool true)], args := [d1, d2, d3, d4] }
  | _ => none }
def topMasseyRow : OpenClaim := { program := "ytcgmllamiaflcaa", sum := "b8c6841ed2c8825c1a4027e335959a8e9ec7c343bc0562713e36d5c0f6e73194", func := "syndrome/syndrometop.TopMassey", spec := "topMassey", unfollowed := true, recurses := true, apart := false }
def TopMasseySaid : Prop := topMasseyRow.holds Try.pinned (OpenSpec.ofChange topMasseySpec)

/-- ITS FALSE NEIGHBOUR: 'it returns false'. Refute it at one input. -/
def topMasseyWrong : ChangeSpec := { name := "topMassey", fn := fun _ => fun
  | [d1, d2, d3, d4] => { results := [.lit (.bool false)], args := [d1, d2, d3, d4] }
  | _ => none }
def TopMasseyWrongFalsely : Prop := topMasseyRow.holds Try.pinned (OpenSpec.ofChange topMasseyWrong)

/-- 'syndrometop.TopNear': WHATEVER THE INPUT: true; the input reads as it did. -/
def topNearSpec : ChangeSpec := { name := "topNear", fn := fun _ => fun
  | [d1, d2, d3, d4, d5, d6] => { results := [.lit (.bool true)], args := [d1, d2, d3, d4, d5, d6] }
  | _ => none }
def topNearRow : OpenClaim := { program := "ytcgmllamiaflcaa", sum := "b8c6841ed2c8825c1a4027e335959a8e9ec7c343bc0562713e36d5c0f6e73194", func := "syndrome/syndrometop.TopNear", spec := "topNear", unfollowed := true, recurses := true, apart := false }
def TopNearSaid : Prop := topNearRow.holds Try.pinned (OpenSpec.ofChange topNearSpec)

/-- ITS FALSE NEIGHBOUR: 'it returns false'. Refute it at one input. -/
def topNearWrong : ChangeSpec := { name := "topNear", fn := fun _ => fun
  | [d1, d2, d3, d4, d5, d6] => { results := [.lit (.bool false)], args := [d1, d2, d3, d4, d5, d6] }
  | _ => none }
def TopNearWrongFalsely : Prop := topNearRow.holds Try.pinned (OpenSpec.ofChange topNearWrong)

/- THE SECOND FORM. 'bulk': how many values and letters a reading holds, each counted each time it is reached (what is shared counts as often as it is met; a slice's spare places count too). A statement '..UptoSaid' is the law's where the arguments, and the package variables that the reading takes, are together of bulk at most 1048576: NARROWER than '..Said'. Prove '..Said' where nothing that the law and all that it calls make is longer than what came in: it says more and counts as full. Else prove '..UptoSaid'. A law counts once. -/
mutual
def uptoBulk {H : Type} : DataW H → Nat
  | .lit (.string bytes) => bytes.length + 1
  | .lit _ => 1
  | .nil => 1
  | .ptr d => uptoBulk d + 1
  | .slice elems spare => uptoBulkAll elems + uptoBulkAll spare + 1
  | .agg parts => uptoBulkAll parts + 1
  | .iface _ d => uptoBulk d + 1
  | .map entries => uptoBulkEntries entries + 1
  | .held _ => 1
def uptoBulkAll {H : Type} : List (DataW H) → Nat
  | [] => 0
  | d :: r => uptoBulk d + uptoBulkAll r
def uptoBulkEntries {H : Type} : List (Lit × DataW H) → Nat
  | [] => 0
  | x :: r => uptoBulkEntry x + uptoBulkEntries r
def uptoBulkEntry {H : Type} : Lit × DataW H → Nat
  | (.string bytes, d) => bytes.length + uptoBulk d + 1
  | (_, d) => uptoBulk d + 1
 end
def uptoSmall : (H : Type) → List (DataW H) → Bool := fun _ ds => decide (uptoBulkAll ds ≤ 1048576)
def OpenSpec.upto (s : _root_.Go.ChangeSpec) : _root_.Go.OpenSpec := { _root_.Go.OpenSpec.ofChange s with cond := some uptoSmall }

/-- 'syndrometop.TopMends', WHERE WHAT IT READS IS OF BULK AT MOST 1048576: true; the input reads as it did. -/
def topMendsUptoRow : OpenClaim := { program := "ytcgmllamiaflcaa", sum := "b8c6841ed2c8825c1a4027e335959a8e9ec7c343bc0562713e36d5c0f6e73194", func := "syndrome/syndrometop.TopMends", spec := "topMends", unfollowed := true, recurses := true, apart := false, narrowed := true }
def TopMendsUptoSaid : Prop := topMendsUptoRow.holds Try.pinned (OpenSpec.upto topMendsSpec)

/-- 'syndrometop.TopApart', WHERE WHAT IT READS IS OF BULK AT MOST 1048576: true; the input reads as it did. -/
def topApartUptoRow : OpenClaim := { program := "ytcgmllamiaflcaa", sum := "b8c6841ed2c8825c1a4027e335959a8e9ec7c343bc0562713e36d5c0f6e73194", func := "syndrome/syndrometop.TopApart", spec := "topApart", unfollowed := true, recurses := true, apart := false, narrowed := true }
def TopApartUptoSaid : Prop := topApartUptoRow.holds Try.pinned (OpenSpec.upto topApartSpec)

/-- 'syndrometop.TopMassey', WHERE WHAT IT READS IS OF BULK AT MOST 1048576: true; the input reads as it did. -/
def topMasseyUptoRow : OpenClaim := { program := "ytcgmllamiaflcaa", sum := "b8c6841ed2c8825c1a4027e335959a8e9ec7c343bc0562713e36d5c0f6e73194", func := "syndrome/syndrometop.TopMassey", spec := "topMassey", unfollowed := true, recurses := true, apart := false, narrowed := true }
def TopMasseyUptoSaid : Prop := topMasseyUptoRow.holds Try.pinned (OpenSpec.upto topMasseySpec)

/-- 'syndrometop.TopNear', WHERE WHAT IT READS IS OF BULK AT MOST 1048576: true; the input reads as it did. -/
def topNearUptoRow : OpenClaim := { program := "ytcgmllamiaflcaa", sum := "b8c6841ed2c8825c1a4027e335959a8e9ec7c343bc0562713e36d5c0f6e73194", func := "syndrome/syndrometop.TopNear", spec := "topNear", unfollowed := true, recurses := true, apart := false, narrowed := true }
def TopNearUptoSaid : Prop := topNearUptoRow.holds Try.pinned (OpenSpec.upto topNearSpec)

end Rows
end Go.Proofs.Ytcgmllamiaflcaa
