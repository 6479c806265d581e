/- Texts of ours, one behind the other: R16 R17 B7 B8 M8 M9 G1. -/
import Derived.Test.YtccfgiojlhfhaaaZR13
import Derived.Deep.RegionHeld3
/- The reference: what each element of a field becomes in a greater one (Embed). -/
namespace Go.Proofs.Ytccfgiojlhfhaaa
open Go.RowKit

end Go.Proofs.Ytccfgiojlhfhaaa

/- The reference: what each element of a field becomes in a greater one, gone on (Embed). -/
namespace Go.Proofs.Ytccfgiojlhfhaaa
open Go.RowKit

end Go.Proofs.Ytccfgiojlhfhaaa

/- A field's calls, gone on: what a smaller field's elements become (at, rootFor, Embed). -/
namespace Go.Proofs.Ytccfgiojlhfhaaa
open Go.RowKit

end Go.Proofs.Ytccfgiojlhfhaaa

/- A field's calls, gone on: what a smaller field's elements become (Embed). -/
namespace Go.Proofs.Ytccfgiojlhfhaaa
open Go.RowKit

end Go.Proofs.Ytccfgiojlhfhaaa

/- Plain mathematics: Fermat and Frobenius, traces and norms; what a smaller field's elements become is a copy of it. -/
namespace Go.Proofs.Ytccfgiojlhfhaaa
open Go.RowKit

/-! ### The kernel's checks -/
end Go.Proofs.Ytccfgiojlhfhaaa

/- Plain mathematics, gone on: the laws that follow from the kernel's checks. -/
namespace Go.Proofs.Ytccfgiojlhfhaaa
open Go.RowKit

/-! ### Frobenius -/
/-! ### Traces and norms -/
/-! ### Copies -/
end Go.Proofs.Ytccfgiojlhfhaaa

/- The walk of the statement FieldEmbeds. -/
namespace Go.Proofs.Ytccfgiojlhfhaaa
open Go.RowKit

/-! ### What two answers with lists are held together by -/
end Go.Proofs.Ytccfgiojlhfhaaa
