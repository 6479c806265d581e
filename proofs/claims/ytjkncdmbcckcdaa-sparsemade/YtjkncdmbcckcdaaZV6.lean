/- The reference's polynomials: quotients and rests (PDiv). -/
import Derived.Test.YtjkncdmbcckcdaaZU13
namespace Go.Proofs.Ytjkncdmbcckcdaa
open Go.RowKit Go.Sort

end Go.Proofs.Ytjkncdmbcckcdaa
