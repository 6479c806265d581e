/- The reference's polynomials: parts (Factors), the walk. -/
import Derived.Test.YtogobpamlalbiaaZU22
namespace Go.Proofs.Ytogobpamlalbiaa
open Go.RowKit Go.Sort

end Go.Proofs.Ytogobpamlalbiaa
