/- The reference's polynomials: parts (Factors), the walk. -/
import Derived.Test.YtogobpamlalbiaaGreatZU21
namespace Go.Proofs.YtogobpamlalbiaaGreat
open Go.RowKit Go.Sort

end Go.Proofs.YtogobpamlalbiaaGreat
