/- PolySays: where both may be. -/
import Derived.Test.YtbofcldmgjeklaaZL1
namespace Go.Proofs.Ytbofcldmgjeklaa
open Go.RowKit Go.Sort

end Go.Proofs.Ytbofcldmgjeklaa
