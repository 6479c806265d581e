/- Texts of ours, one behind the other: L9. -/
import Derived.Test.YtppggchhkckobaaGreatZL1
namespace Go.Proofs.YtppggchhkckobaaGreat
open Go.RowKit Go.Sort
end Go.Proofs.YtppggchhkckobaaGreat
