/- The reference's polynomials: parts (Factors), the walk. -/
import Derived.Test.YtbofcldmgjeklaaZU22
namespace Go.Proofs.Ytbofcldmgjeklaa
open Go.RowKit Go.Sort

end Go.Proofs.Ytbofcldmgjeklaa
