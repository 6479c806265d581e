/- PolySays: where both may be. -/
import Derived.Test.YtlljaliemldjkaaZL1
namespace Go.Proofs.Ytlljaliemldjkaa
open Go.RowKit Go.Sort

end Go.Proofs.Ytlljaliemldjkaa
