/- PolySays: where both may be. -/
import Derived.Test.YtccfgiojlhfhaaaZL1
namespace Go.Proofs.Ytccfgiojlhfhaaa
open Go.RowKit Go.Sort

end Go.Proofs.Ytccfgiojlhfhaaa
