/- The reference's polynomials: values of a polynomial that came in (value, PAt). -/
import Derived.Test.YtonjkpakbmbafaaZU7
namespace Go.Proofs.Ytonjkpakbmbafaa
open Go.RowKit

end Go.Proofs.Ytonjkpakbmbafaa
