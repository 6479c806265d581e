/- The reference's polynomials: quotients and rests (PDiv). -/
import Derived.Test.YtillljojdnofgaaZU17
namespace Go.Proofs.Ytillljojdnofgaa
open Go.RowKit Go.Sort

end Go.Proofs.Ytillljojdnofgaa
