/- PolySays: where both may be. -/
import Derived.Test.YtcgmllamiaflcaaZL1
namespace Go.Proofs.Ytcgmllamiaflcaa
open Go.RowKit Go.Sort

end Go.Proofs.Ytcgmllamiaflcaa
