/- The reference's polynomials: parts (Factors), the walk. -/
import Derived.Test.YtnjbnamcedfjaaaZW7
namespace Go.Proofs.Ytnjbnamcedfjaaa
open Go.RowKit Go.Sort

end Go.Proofs.Ytnjbnamcedfjaaa
