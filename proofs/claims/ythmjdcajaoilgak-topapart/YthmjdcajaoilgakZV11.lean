/- The reference's polynomials: parts (Factors), the walk. -/
import Derived.Test.YthmjdcajaoilgakZW7
namespace Go.Proofs.Ythmjdcajaoilgak
open Go.RowKit Go.Sort

end Go.Proofs.Ythmjdcajaoilgak
