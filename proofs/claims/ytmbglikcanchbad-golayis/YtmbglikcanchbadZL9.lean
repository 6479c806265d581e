/- PolySays: where both may be. -/
import Derived.Test.YtmbglikcanchbadZL1
namespace Go.Proofs.Ytmbglikcanchbad
open Go.RowKit Go.Sort

end Go.Proofs.Ytmbglikcanchbad
