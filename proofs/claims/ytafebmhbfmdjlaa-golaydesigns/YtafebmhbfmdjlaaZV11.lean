/- The reference's polynomials: parts (Factors), the walk. -/
import Derived.Test.YtafebmhbfmdjlaaZV7
namespace Go.Proofs.Ytafebmhbfmdjlaa
open Go.RowKit Go.Sort

end Go.Proofs.Ytafebmhbfmdjlaa
