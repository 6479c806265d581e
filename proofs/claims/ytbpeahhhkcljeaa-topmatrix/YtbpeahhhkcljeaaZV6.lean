/- The reference's polynomials: quotients and rests (PDiv). -/
import Derived.Test.YtbpeahhhkcljeaaZU4
namespace Go.Proofs.Ytbpeahhhkcljeaa
open Go.RowKit Go.Sort

end Go.Proofs.Ytbpeahhhkcljeaa
