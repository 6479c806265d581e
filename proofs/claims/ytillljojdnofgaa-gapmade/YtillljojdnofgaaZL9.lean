/- PolySays: where both may be. -/
import Derived.Test.YtillljojdnofgaaZL1
namespace Go.Proofs.Ytillljojdnofgaa
open Go.RowKit Go.Sort

end Go.Proofs.Ytillljojdnofgaa
