/- The reference's polynomials: parts (Factors), the walk. -/
import Derived.Test.YtmbglikcanchbacZW7
namespace Go.Proofs.Ytmbglikcanchbac
open Go.RowKit Go.Sort

end Go.Proofs.Ytmbglikcanchbac
