/- The reference's polynomials: parts (Factors), the walk. -/
import Derived.Test.YtonjkpakbmbafaaZW7
namespace Go.Proofs.Ytonjkpakbmbafaa
open Go.RowKit Go.Sort

end Go.Proofs.Ytonjkpakbmbafaa
