/- The reference's polynomials: parts (Factors), the walk. -/
import Derived.Test.YtabkomelnhnoiaaZW7
namespace Go.Proofs.Ytabkomelnhnoiaa
open Go.RowKit Go.Sort

end Go.Proofs.Ytabkomelnhnoiaa
