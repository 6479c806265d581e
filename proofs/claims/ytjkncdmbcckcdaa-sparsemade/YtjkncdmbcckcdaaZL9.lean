/- PolySays: where both may be. -/
import Derived.Test.YtjkncdmbcckcdaaZL1
namespace Go.Proofs.Ytjkncdmbcckcdaa
open Go.RowKit Go.Sort

end Go.Proofs.Ytjkncdmbcckcdaa
