/- PolySays: where both may be. -/
import Derived.Test.YtonjkpakbmbafaaZL1
namespace Go.Proofs.Ytonjkpakbmbafaa
open Go.RowKit Go.Sort

end Go.Proofs.Ytonjkpakbmbafaa
