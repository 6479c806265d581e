/- Texts of ours, one behind the other: M6. -/
import Derived.Test.YtedifobeggabnaaGreatCbM5
namespace Go.Proofs.YtedifobeggabnaaGreat
end Go.Proofs.YtedifobeggabnaaGreat
