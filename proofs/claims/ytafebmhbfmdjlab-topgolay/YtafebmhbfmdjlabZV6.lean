/- The reference's polynomials: quotients and rests (PDiv). -/
import Derived.Test.YtafebmhbfmdjlabZU9
namespace Go.Proofs.Ytafebmhbfmdjlab
open Go.RowKit Go.Sort

end Go.Proofs.Ytafebmhbfmdjlab
