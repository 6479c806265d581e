/- The reference's polynomials: parts (Factors), the walk. -/
import Derived.Test.YtppggchhkckobaaGreatZV7
namespace Go.Proofs.YtppggchhkckobaaGreat
open Go.RowKit Go.Sort

end Go.Proofs.YtppggchhkckobaaGreat
