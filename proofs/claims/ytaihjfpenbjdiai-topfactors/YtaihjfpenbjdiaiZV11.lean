/- The reference's polynomials: parts (Factors), the walk. -/
import Derived.Test.YtaihjfpenbjdiaiZW7
namespace Go.Proofs.Ytaihjfpenbjdiai
open Go.RowKit Go.Sort

end Go.Proofs.Ytaihjfpenbjdiai
