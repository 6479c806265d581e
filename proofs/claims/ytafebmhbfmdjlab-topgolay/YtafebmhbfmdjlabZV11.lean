/- The reference's polynomials: parts (Factors), the walk. -/
import Derived.Test.YtafebmhbfmdjlabZV7
namespace Go.Proofs.Ytafebmhbfmdjlab
open Go.RowKit Go.Sort

end Go.Proofs.Ytafebmhbfmdjlab
