/- PolySays: where both may be. -/
import Derived.Test.YtjkncdmbcckcdabZL1
namespace Go.Proofs.Ytjkncdmbcckcdab
open Go.RowKit Go.Sort

end Go.Proofs.Ytjkncdmbcckcdab
