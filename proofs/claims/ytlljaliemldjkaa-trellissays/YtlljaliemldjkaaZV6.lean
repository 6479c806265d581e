/- The reference's polynomials: quotients and rests (PDiv). -/
import Derived.Test.YtlljaliemldjkaaZU7
namespace Go.Proofs.Ytlljaliemldjkaa
open Go.RowKit Go.Sort

end Go.Proofs.Ytlljaliemldjkaa
