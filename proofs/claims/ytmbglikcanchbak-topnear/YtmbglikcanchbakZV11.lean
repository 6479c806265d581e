/- The reference's polynomials: parts (Factors), the walk. -/
import Derived.Test.YtmbglikcanchbakZV10
namespace Go.Proofs.Ytmbglikcanchbak
open Go.RowKit Go.Sort

end Go.Proofs.Ytmbglikcanchbak
