/- Texts of ours, one behind the other: V11. -/
import Derived.Test.YtedifobeggabnaaGreatCbV7
namespace Go.Proofs.YtedifobeggabnaaGreat
open Go.RowKit Go.Sort
