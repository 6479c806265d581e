/- The reference's polynomials: parts (Factors), the walk. -/
import Derived.Test.YtabkomelnhnoiaaZU21
namespace Go.Proofs.Ytabkomelnhnoiaa
open Go.RowKit Go.Sort

end Go.Proofs.Ytabkomelnhnoiaa
