/- Texts of ours, one behind the other: V6. -/
import Derived.Test.YtedifobeggabnaaGreatCbU5
namespace Go.Proofs.YtedifobeggabnaaGreat
open Go.RowKit Go.Sort
end Go.Proofs.YtedifobeggabnaaGreat
