/- The reference's polynomials: parts (Factors), the walk. -/
import Derived.Test.YtpccbiinfdppnabZU20
namespace Go.Proofs.Ytpccbiinfdppnab
open Go.RowKit Go.Sort

end Go.Proofs.Ytpccbiinfdppnab
