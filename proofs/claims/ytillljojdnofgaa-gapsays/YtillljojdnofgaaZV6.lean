/- The reference's polynomials: quotients and rests (PDiv). -/
import Derived.Test.YtillljojdnofgaaZV3
namespace Go.Proofs.Ytillljojdnofgaa
open Go.RowKit Go.Sort

end Go.Proofs.Ytillljojdnofgaa
