/- Texts of ours, one behind the other: U17 V1 V2 V3 W5 V4 V5. -/
import Derived.Test.YtillljojdnofgaaZW4
import Derived.Test.YtillljojdnofgaaZR5
import Derived.Lib.QuietBelow
/- Does an element stand twice in a list (hasTwice)? -/
namespace Go.Proofs.Ytillljojdnofgaa
open Go.RowKit

end Go.Proofs.Ytillljojdnofgaa

/- The reference's polynomials: without noughts at the end (Trim); which may be (PolyMay). -/
namespace Go.Proofs.Ytillljojdnofgaa
open Go.RowKit

end Go.Proofs.Ytillljojdnofgaa

/- The reference's polynomials: which may be (PolyMay). -/
namespace Go.Proofs.Ytillljojdnofgaa
open Go.RowKit

end Go.Proofs.Ytillljojdnofgaa

/- The reference's polynomials: sums (PAdd). -/
namespace Go.Proofs.Ytillljojdnofgaa
open Go.RowKit

end Go.Proofs.Ytillljojdnofgaa

/- The same where the calls lay blocks: the worlds in which nothing that was there has turned. No Go text here. -/
namespace Go.Proofs.Ytillljojdnofgaa
open Go Go.Sort Go.RowKit

end Go.Proofs.Ytillljojdnofgaa

/- The reference's polynomials: products (PMul). -/
namespace Go.Proofs.Ytillljojdnofgaa
open Go.RowKit Go.Sort

end Go.Proofs.Ytillljojdnofgaa

/- The reference's polynomials: values of a polynomial that came in (value, PAt). -/
namespace Go.Proofs.Ytillljojdnofgaa
open Go.RowKit

end Go.Proofs.Ytillljojdnofgaa
