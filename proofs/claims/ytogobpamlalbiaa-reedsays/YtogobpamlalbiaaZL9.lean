/- PolySays: where both may be. -/
import Derived.Test.YtogobpamlalbiaaZL1
namespace Go.Proofs.Ytogobpamlalbiaa
open Go.RowKit Go.Sort

end Go.Proofs.Ytogobpamlalbiaa
