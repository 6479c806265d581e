/- Texts of ours, one behind the other: M4. -/
import Derived.Test.YtedifobeggabnaaGreatCbM3
namespace Go.Proofs.YtedifobeggabnaaGreat
end Go.Proofs.YtedifobeggabnaaGreat
