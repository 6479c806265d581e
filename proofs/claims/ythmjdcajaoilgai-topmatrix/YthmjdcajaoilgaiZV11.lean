/- The reference's polynomials: parts (Factors), the walk. -/
import Derived.Test.YthmjdcajaoilgaiZW7
namespace Go.Proofs.Ythmjdcajaoilgai
open Go.RowKit Go.Sort

end Go.Proofs.Ythmjdcajaoilgai
