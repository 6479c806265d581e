/- PolySays: where both may be. -/
import Derived.Test.YtmklnjkallhphaaZL1
namespace Go.Proofs.Ytmklnjkallhphaa
open Go.RowKit Go.Sort

end Go.Proofs.Ytmklnjkallhphaa
