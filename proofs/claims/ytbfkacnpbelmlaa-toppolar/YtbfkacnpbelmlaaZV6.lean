/- The reference's polynomials: quotients and rests (PDiv). -/
import Derived.Test.YtbfkacnpbelmlaaZU9
namespace Go.Proofs.Ytbfkacnpbelmlaa
open Go.RowKit Go.Sort

end Go.Proofs.Ytbfkacnpbelmlaa
