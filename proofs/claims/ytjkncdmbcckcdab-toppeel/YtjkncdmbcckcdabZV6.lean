/- The reference's polynomials: quotients and rests (PDiv). -/
import Derived.Test.YtjkncdmbcckcdabZU9
namespace Go.Proofs.Ytjkncdmbcckcdab
open Go.RowKit Go.Sort

end Go.Proofs.Ytjkncdmbcckcdab
