/- The reference's polynomials: parts (Factors), the walk. -/
import Derived.Test.YtnjbnamcedfjaaaGreatZU22
namespace Go.Proofs.YtnjbnamcedfjaaaGreat
open Go.RowKit Go.Sort

end Go.Proofs.YtnjbnamcedfjaaaGreat
