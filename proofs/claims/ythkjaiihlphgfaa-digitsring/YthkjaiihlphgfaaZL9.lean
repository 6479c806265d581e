/- PolySays: where both may be. -/
import Derived.Test.YthkjaiihlphgfaaZL1
namespace Go.Proofs.Ythkjaiihlphgfaa
open Go.RowKit Go.Sort

end Go.Proofs.Ythkjaiihlphgfaa
