/- PolySays: where both may be. -/
import Derived.Test.YtabkomelnhnoiaaZL1
namespace Go.Proofs.Ytabkomelnhnoiaa
open Go.RowKit Go.Sort

end Go.Proofs.Ytabkomelnhnoiaa
