/- The reference's polynomials: parts (Factors), the walk. -/
import Derived.Test.YtjkncdmbcckcdaaZW7
namespace Go.Proofs.Ytjkncdmbcckcdaa
open Go.RowKit Go.Sort

end Go.Proofs.Ytjkncdmbcckcdaa
