/- PolySays: where both may be. -/
import Derived.Test.YtafebmhbfmdjlaaZL1
namespace Go.Proofs.Ytafebmhbfmdjlaa
open Go.RowKit Go.Sort

end Go.Proofs.Ytafebmhbfmdjlaa
