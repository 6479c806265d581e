/- The reference's polynomials: parts (Factors), the walk. -/
import Derived.Test.YtaliaikahohemaaDoorZV7
namespace Go.Proofs.YtaliaikahohemaaDoor
open Go.RowKit Go.Sort

end Go.Proofs.YtaliaikahohemaaDoor
