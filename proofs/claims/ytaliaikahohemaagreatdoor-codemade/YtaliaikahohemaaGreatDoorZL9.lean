/- PolySays: where both may be. -/
import Derived.Test.YtaliaikahohemaaGreatDoorZL1
namespace Go.Proofs.YtaliaikahohemaaGreatDoor
open Go.RowKit Go.Sort

end Go.Proofs.YtaliaikahohemaaGreatDoor
