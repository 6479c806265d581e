/- The reference's polynomials: parts (Factors), the walk. -/
import Derived.Test.YthkjaiihlphgfabZV7
namespace Go.Proofs.Ythkjaiihlphgfab
open Go.RowKit Go.Sort

end Go.Proofs.Ythkjaiihlphgfab
