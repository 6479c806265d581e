/- The reference's polynomials: parts (Factors), the walk. -/
import Derived.Test.YtbfkacnpbelmlaaZV7
namespace Go.Proofs.Ytbfkacnpbelmlaa
open Go.RowKit Go.Sort

end Go.Proofs.Ytbfkacnpbelmlaa
