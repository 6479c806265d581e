/- The reference's polynomials: parts (Factors), the walk. -/
import Derived.Test.YtcgmllamiaflcaaZV7
namespace Go.Proofs.Ytcgmllamiaflcaa
open Go.RowKit Go.Sort

end Go.Proofs.Ytcgmllamiaflcaa
