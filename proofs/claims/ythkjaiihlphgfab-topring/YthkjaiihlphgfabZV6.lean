/- The reference's polynomials: quotients and rests (PDiv). -/
import Derived.Test.YthkjaiihlphgfabZU13
namespace Go.Proofs.Ythkjaiihlphgfab
open Go.RowKit Go.Sort

end Go.Proofs.Ythkjaiihlphgfab
