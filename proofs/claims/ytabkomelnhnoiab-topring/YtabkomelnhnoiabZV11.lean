/- The reference's polynomials: parts (Factors), the walk. -/
import Derived.Test.YtabkomelnhnoiabZW7
namespace Go.Proofs.Ytabkomelnhnoiab
open Go.RowKit Go.Sort

end Go.Proofs.Ytabkomelnhnoiab
