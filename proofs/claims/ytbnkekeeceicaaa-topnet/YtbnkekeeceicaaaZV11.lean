/- The reference's polynomials: parts (Factors), the walk. -/
import Derived.Test.YtbnkekeeceicaaaZV7
namespace Go.Proofs.Ytbnkekeeceicaaa
open Go.RowKit Go.Sort

end Go.Proofs.Ytbnkekeeceicaaa
