/- PolySays: where both may be. -/
import Derived.Test.YtmbglikcanchbabZL1
namespace Go.Proofs.Ytmbglikcanchbab
open Go.RowKit Go.Sort

end Go.Proofs.Ytmbglikcanchbab
