/- Texts of ours, one behind the other: B8 M8 M9 G1. -/
import Derived.Test.YtabkomelnhnoiabZR5
/- A field's calls, gone on: what a smaller field's elements become (Embed). -/
namespace Go.Proofs.Ytabkomelnhnoiab
open Go.RowKit

end Go.Proofs.Ytabkomelnhnoiab

/- Plain mathematics: Fermat and Frobenius, traces and norms; what a smaller field's elements become is a copy of it. -/
namespace Go.Proofs.Ytabkomelnhnoiab
open Go.RowKit

/-! ### The kernel's checks -/
end Go.Proofs.Ytabkomelnhnoiab

/- Plain mathematics, gone on: the laws that follow from the kernel's checks. -/
namespace Go.Proofs.Ytabkomelnhnoiab
open Go.RowKit

/-! ### Frobenius -/
/-! ### Traces and norms -/
/-! ### Copies -/
end Go.Proofs.Ytabkomelnhnoiab

/- The walk of the statement FieldEmbeds. -/
namespace Go.Proofs.Ytabkomelnhnoiab
open Go.RowKit

/-! ### What two answers with lists are held together by -/
end Go.Proofs.Ytabkomelnhnoiab
