/- The reference's polynomials: parts (Factors), the walk. -/
import Derived.Test.YtmbglikcanchbabZV7
namespace Go.Proofs.Ytmbglikcanchbab
open Go.RowKit Go.Sort

end Go.Proofs.Ytmbglikcanchbab
