/- The reference's polynomials: values of a polynomial that came in (value, PAt). -/
import Derived.Test.YthkjaiihlphgfaaZU2
namespace Go.Proofs.Ythkjaiihlphgfaa
open Go.RowKit

end Go.Proofs.Ythkjaiihlphgfaa
