/- PolySays: where both may be. -/
import Derived.Test.YtnjbnamcedfjaaaGreatZL1
namespace Go.Proofs.YtnjbnamcedfjaaaGreat
open Go.RowKit Go.Sort

end Go.Proofs.YtnjbnamcedfjaaaGreat
