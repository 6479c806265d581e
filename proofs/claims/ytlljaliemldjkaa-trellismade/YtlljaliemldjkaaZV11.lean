/- The reference's polynomials: parts (Factors), the walk. -/
import Derived.Test.YtlljaliemldjkaaZV7
namespace Go.Proofs.Ytlljaliemldjkaa
open Go.RowKit Go.Sort

end Go.Proofs.Ytlljaliemldjkaa
