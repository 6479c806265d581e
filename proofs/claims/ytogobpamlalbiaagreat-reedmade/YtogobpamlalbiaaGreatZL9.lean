/- PolySays: where both may be. -/
import Derived.Test.YtogobpamlalbiaaGreatZL1
namespace Go.Proofs.YtogobpamlalbiaaGreat
open Go.RowKit Go.Sort

end Go.Proofs.YtogobpamlalbiaaGreat
