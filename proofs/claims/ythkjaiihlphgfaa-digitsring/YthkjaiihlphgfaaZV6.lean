/- The reference's polynomials: quotients and rests (PDiv). -/
import Derived.Test.YthkjaiihlphgfaaZU15
namespace Go.Proofs.Ythkjaiihlphgfaa
open Go.RowKit Go.Sort

end Go.Proofs.Ythkjaiihlphgfaa
