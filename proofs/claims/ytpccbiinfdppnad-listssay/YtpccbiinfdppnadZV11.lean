/- The reference's polynomials: parts (Factors), the walk. -/
import Derived.Test.YtpccbiinfdppnadZW6
namespace Go.Proofs.Ytpccbiinfdppnad
open Go.RowKit Go.Sort

end Go.Proofs.Ytpccbiinfdppnad
