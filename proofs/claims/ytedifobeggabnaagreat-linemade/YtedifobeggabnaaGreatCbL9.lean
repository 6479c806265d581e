/- Texts of ours, one behind the other: L9. -/
import Derived.Test.YtedifobeggabnaaGreatCbL1
namespace Go.Proofs.YtedifobeggabnaaGreat
open Go.RowKit Go.Sort
