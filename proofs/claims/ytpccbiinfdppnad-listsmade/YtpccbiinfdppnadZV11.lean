/- The reference's polynomials: parts (Factors), the walk. -/
import Derived.Test.YtpccbiinfdppnadZU22
namespace Go.Proofs.Ytpccbiinfdppnad
open Go.RowKit Go.Sort

end Go.Proofs.Ytpccbiinfdppnad
