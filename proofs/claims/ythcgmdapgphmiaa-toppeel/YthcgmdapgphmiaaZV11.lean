/- The reference's polynomials: parts (Factors), the walk. -/
import Derived.Test.YthcgmdapgphmiaaZV7
namespace Go.Proofs.Ythcgmdapgphmiaa
open Go.RowKit Go.Sort

end Go.Proofs.Ythcgmdapgphmiaa
