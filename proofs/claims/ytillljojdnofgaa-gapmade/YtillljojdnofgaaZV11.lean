/- The reference's polynomials: parts (Factors), the walk. -/
import Derived.Test.YtillljojdnofgaaZU21
namespace Go.Proofs.Ytillljojdnofgaa
open Go.RowKit Go.Sort

end Go.Proofs.Ytillljojdnofgaa
