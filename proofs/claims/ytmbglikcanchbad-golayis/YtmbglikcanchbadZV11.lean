/- The reference's polynomials: parts (Factors), the walk. -/
import Derived.Test.YtmbglikcanchbadZV7
namespace Go.Proofs.Ytmbglikcanchbad
open Go.RowKit Go.Sort

end Go.Proofs.Ytmbglikcanchbad
