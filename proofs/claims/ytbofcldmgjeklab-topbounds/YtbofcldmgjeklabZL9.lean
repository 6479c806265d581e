/- PolySays: where both may be. -/
import Derived.Test.YtbofcldmgjeklabZL1
namespace Go.Proofs.Ytbofcldmgjeklab
open Go.RowKit Go.Sort

end Go.Proofs.Ytbofcldmgjeklab
