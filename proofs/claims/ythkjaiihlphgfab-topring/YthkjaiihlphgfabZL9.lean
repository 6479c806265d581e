/- PolySays: where both may be. -/
import Derived.Test.YthkjaiihlphgfabZL1
namespace Go.Proofs.Ythkjaiihlphgfab
open Go.RowKit Go.Sort

end Go.Proofs.Ythkjaiihlphgfab
