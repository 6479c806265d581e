/- The reference's polynomials: quotients and rests (PDiv). -/
import Derived.Test.YtppggchhkckobaaGreatZU10
namespace Go.Proofs.YtppggchhkckobaaGreat
open Go.RowKit Go.Sort

end Go.Proofs.YtppggchhkckobaaGreat
