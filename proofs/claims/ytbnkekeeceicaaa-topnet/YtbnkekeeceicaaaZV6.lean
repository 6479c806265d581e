/- The reference's polynomials: quotients and rests (PDiv). -/
import Derived.Test.YtbnkekeeceicaaaZW4
namespace Go.Proofs.Ytbnkekeeceicaaa
open Go.RowKit Go.Sort

end Go.Proofs.Ytbnkekeeceicaaa
