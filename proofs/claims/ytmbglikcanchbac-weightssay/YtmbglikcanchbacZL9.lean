/- PolySays: where both may be. -/
import Derived.Test.YtmbglikcanchbacZL1
namespace Go.Proofs.Ytmbglikcanchbac
open Go.RowKit Go.Sort

end Go.Proofs.Ytmbglikcanchbac
