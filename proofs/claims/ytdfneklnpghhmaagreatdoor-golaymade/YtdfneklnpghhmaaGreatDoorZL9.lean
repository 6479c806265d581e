/- PolySays: where both may be. -/
import Derived.Test.YtdfneklnpghhmaaGreatDoorZL1
namespace Go.Proofs.YtdfneklnpghhmaaGreatDoor
open Go.RowKit Go.Sort

end Go.Proofs.YtdfneklnpghhmaaGreatDoor
