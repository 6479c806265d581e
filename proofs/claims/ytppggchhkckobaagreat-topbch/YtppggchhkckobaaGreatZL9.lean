/- PolySays: where both may be. -/
import Derived.Test.YtppggchhkckobaaGreatZL1
namespace Go.Proofs.YtppggchhkckobaaGreat
open Go.RowKit Go.Sort

end Go.Proofs.YtppggchhkckobaaGreat
