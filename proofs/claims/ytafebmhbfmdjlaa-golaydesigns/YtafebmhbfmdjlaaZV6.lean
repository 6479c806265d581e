/- The reference's polynomials: quotients and rests (PDiv). -/
import Derived.Test.YtafebmhbfmdjlaaZU9
namespace Go.Proofs.Ytafebmhbfmdjlaa
open Go.RowKit Go.Sort

end Go.Proofs.Ytafebmhbfmdjlaa
