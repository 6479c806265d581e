/- The reference's polynomials: parts (Factors), the walk. -/
import Derived.Test.YtmbglikcanchbajZV7
namespace Go.Proofs.Ytmbglikcanchbaj
open Go.RowKit Go.Sort

end Go.Proofs.Ytmbglikcanchbaj
