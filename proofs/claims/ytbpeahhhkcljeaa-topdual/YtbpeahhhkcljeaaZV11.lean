/- The reference's polynomials: parts (Factors), the walk. -/
import Derived.Test.YtbpeahhhkcljeaaZV7
namespace Go.Proofs.Ytbpeahhhkcljeaa
open Go.RowKit Go.Sort

end Go.Proofs.Ytbpeahhhkcljeaa
