/- PolySays: where both may be. -/
import Derived.Test.YtabkomelnhnoiabZL1
namespace Go.Proofs.Ytabkomelnhnoiab
open Go.RowKit Go.Sort

end Go.Proofs.Ytabkomelnhnoiab
