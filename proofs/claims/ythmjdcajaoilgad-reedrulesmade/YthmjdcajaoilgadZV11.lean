/- The reference's polynomials: parts (Factors), the walk. -/
import Derived.Test.YthmjdcajaoilgadZW6
namespace Go.Proofs.Ythmjdcajaoilgad
open Go.RowKit Go.Sort

end Go.Proofs.Ythmjdcajaoilgad
