/- Texts of ours, one behind the other: M5. -/
import Derived.Test.YtedifobeggabnaaGreatCbM4
namespace Go.Proofs.YtedifobeggabnaaGreat
end Go.Proofs.YtedifobeggabnaaGreat
