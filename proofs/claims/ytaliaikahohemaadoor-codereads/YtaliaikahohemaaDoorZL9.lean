/- PolySays: where both may be. -/
import Derived.Test.YtaliaikahohemaaDoorZL1
namespace Go.Proofs.YtaliaikahohemaaDoor
open Go.RowKit Go.Sort

end Go.Proofs.YtaliaikahohemaaDoor
