/- The reference's polynomials: parts (Factors), the walk. -/
import Derived.Test.YtpgldgicblhjiaaZV7
namespace Go.Proofs.Ytpgldgicblhjiaa
open Go.RowKit Go.Sort

end Go.Proofs.Ytpgldgicblhjiaa
