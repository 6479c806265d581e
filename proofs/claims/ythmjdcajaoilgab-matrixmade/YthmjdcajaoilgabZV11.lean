/- The reference's polynomials: parts (Factors), the walk. -/
import Derived.Test.YthmjdcajaoilgabZV9
namespace Go.Proofs.Ythmjdcajaoilgab
open Go.RowKit Go.Sort

end Go.Proofs.Ythmjdcajaoilgab
