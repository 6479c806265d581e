/- The reference's polynomials: parts (Factors), the walk. -/
import Derived.Test.YtjkncdmbcckcdabZV7
namespace Go.Proofs.Ytjkncdmbcckcdab
open Go.RowKit Go.Sort

end Go.Proofs.Ytjkncdmbcckcdab
