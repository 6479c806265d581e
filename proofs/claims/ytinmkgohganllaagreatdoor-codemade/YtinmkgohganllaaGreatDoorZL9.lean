/- Texts of ours, one behind the other: L9. -/
import Derived.Test.YtinmkgohganllaaGreatDoorZL1
namespace Go.Proofs.YtinmkgohganllaaGreatDoor
open Go.RowKit Go.Sort
end Go.Proofs.YtinmkgohganllaaGreatDoor
