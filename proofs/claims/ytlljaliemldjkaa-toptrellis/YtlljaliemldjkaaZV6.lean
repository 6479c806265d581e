/- The reference's polynomials: quotients and rests (PDiv). -/
import Derived.Test.YtlljaliemldjkaaZU5
namespace Go.Proofs.Ytlljaliemldjkaa
open Go.RowKit Go.Sort

end Go.Proofs.Ytlljaliemldjkaa
