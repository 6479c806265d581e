/- The reference's polynomials: values of a polynomial that came in (value, PAt). -/
import Derived.Test.YtjkncdmbcckcdaaZV4
namespace Go.Proofs.Ytjkncdmbcckcdaa
open Go.RowKit

end Go.Proofs.Ytjkncdmbcckcdaa
