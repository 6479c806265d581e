/- PolySays: where both may be. -/
import Derived.Test.YtcmejniljbjloaaZL1
namespace Go.Proofs.Ytcmejniljbjloaa
open Go.RowKit Go.Sort

end Go.Proofs.Ytcmejniljbjloaa
