/- Texts of ours, one behind the other: V11. -/
import Derived.Test.YtppggchhkckobaaGreatZV7
namespace Go.Proofs.YtppggchhkckobaaGreat
open Go.RowKit Go.Sort
end Go.Proofs.YtppggchhkckobaaGreat
