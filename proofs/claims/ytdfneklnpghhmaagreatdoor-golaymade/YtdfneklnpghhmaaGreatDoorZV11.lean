/- The reference's polynomials: parts (Factors), the walk. -/
import Derived.Test.YtdfneklnpghhmaaGreatDoorZV7
namespace Go.Proofs.YtdfneklnpghhmaaGreatDoor
open Go.RowKit Go.Sort

end Go.Proofs.YtdfneklnpghhmaaGreatDoor
