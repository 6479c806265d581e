/- The reference's polynomials: parts (Factors), the walk. -/
import Derived.Test.YtbofcldmgjeklabZV7
namespace Go.Proofs.Ytbofcldmgjeklab
open Go.RowKit Go.Sort

end Go.Proofs.Ytbofcldmgjeklab
