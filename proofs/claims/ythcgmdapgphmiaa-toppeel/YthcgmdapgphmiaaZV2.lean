/- Texts of ours, one behind the other: V2 V3 W5 V4 V5. -/
import Derived.Test.YthcgmdapgphmiaaZW4
import Derived.Lib.QuietBelow
/- The reference's polynomials: which may be (PolyMay). -/
namespace Go.Proofs.Ythcgmdapgphmiaa
open Go.RowKit

end Go.Proofs.Ythcgmdapgphmiaa

/- The reference's polynomials: sums (PAdd). -/
namespace Go.Proofs.Ythcgmdapgphmiaa
open Go.RowKit

end Go.Proofs.Ythcgmdapgphmiaa

/- The same where the calls lay blocks: the worlds in which nothing that was there has turned. No Go text here. -/
namespace Go.Proofs.Ythcgmdapgphmiaa
open Go Go.Sort Go.RowKit

end Go.Proofs.Ythcgmdapgphmiaa

/- The reference's polynomials: products (PMul). -/
namespace Go.Proofs.Ythcgmdapgphmiaa
open Go.RowKit Go.Sort

end Go.Proofs.Ythcgmdapgphmiaa

/- The reference's polynomials: values of a polynomial that came in (value, PAt). -/
namespace Go.Proofs.Ythcgmdapgphmiaa
open Go.RowKit

end Go.Proofs.Ythcgmdapgphmiaa
