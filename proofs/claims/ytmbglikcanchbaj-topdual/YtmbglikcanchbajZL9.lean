/- PolySays: where both may be. -/
import Derived.Test.YtmbglikcanchbajZL1
namespace Go.Proofs.Ytmbglikcanchbaj
open Go.RowKit Go.Sort

end Go.Proofs.Ytmbglikcanchbaj
