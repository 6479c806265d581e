/- The reference's polynomials: parts (Factors), the walk. -/
import Derived.Test.YtbnkekeeceicaaaGreatZV7
namespace Go.Proofs.YtbnkekeeceicaaaGreat
open Go.RowKit Go.Sort

end Go.Proofs.YtbnkekeeceicaaaGreat
