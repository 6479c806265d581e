/- The reference's polynomials: parts (Factors), the walk. -/
import Derived.Test.YtcmejniljbjloaaZV7
namespace Go.Proofs.Ytcmejniljbjloaa
open Go.RowKit Go.Sort

end Go.Proofs.Ytcmejniljbjloaa
