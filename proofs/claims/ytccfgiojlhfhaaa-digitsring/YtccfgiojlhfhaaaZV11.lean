/- The reference's polynomials: parts (Factors), the walk. -/
import Derived.Test.YtccfgiojlhfhaaaZW7
namespace Go.Proofs.Ytccfgiojlhfhaaa
open Go.RowKit Go.Sort

end Go.Proofs.Ytccfgiojlhfhaaa
