/- PolySays: where both may be. -/
import Derived.Test.YtafebmhbfmdjlabZL1
namespace Go.Proofs.Ytafebmhbfmdjlab
open Go.RowKit Go.Sort

end Go.Proofs.Ytafebmhbfmdjlab
