/- The reference's polynomials: quotients and rests (PDiv). -/
import Derived.Test.YtcgmllamiaflcaaZU11
namespace Go.Proofs.Ytcgmllamiaflcaa
open Go.RowKit Go.Sort

end Go.Proofs.Ytcgmllamiaflcaa
