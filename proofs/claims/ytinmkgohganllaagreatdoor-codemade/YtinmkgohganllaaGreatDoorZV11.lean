/- Texts of ours, one behind the other: V11. -/
import Derived.Test.YtinmkgohganllaaGreatDoorZV7
namespace Go.Proofs.YtinmkgohganllaaGreatDoor
open Go.RowKit Go.Sort
end Go.Proofs.YtinmkgohganllaaGreatDoor
