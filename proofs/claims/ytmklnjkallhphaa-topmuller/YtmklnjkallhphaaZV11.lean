/- The reference's polynomials: parts (Factors), the walk. -/
import Derived.Test.YtmklnjkallhphaaZV7
namespace Go.Proofs.Ytmklnjkallhphaa
open Go.RowKit Go.Sort

end Go.Proofs.Ytmklnjkallhphaa
