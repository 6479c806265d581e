/- The reference's polynomials: parts (Factors), the walk. -/
import Derived.Test.YtaliaikahohemaaGreatDoorZV7
namespace Go.Proofs.YtaliaikahohemaaGreatDoor
open Go.RowKit Go.Sort

end Go.Proofs.YtaliaikahohemaaGreatDoor
