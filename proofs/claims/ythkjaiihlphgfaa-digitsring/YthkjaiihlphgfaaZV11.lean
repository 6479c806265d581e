/- The reference's polynomials: parts (Factors), the walk. -/
import Derived.Test.YthkjaiihlphgfaaZV7
namespace Go.Proofs.Ythkjaiihlphgfaa
open Go.RowKit Go.Sort

end Go.Proofs.Ythkjaiihlphgfaa
