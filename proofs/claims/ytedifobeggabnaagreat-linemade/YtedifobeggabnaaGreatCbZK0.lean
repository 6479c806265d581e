/- Texts of ours, one behind the other: ZK0. -/
import Derived.Test.YtedifobeggabnaaGreatCbZI0
namespace Go.Proofs.YtedifobeggabnaaGreat
open Go.RowKit Go.Sort
