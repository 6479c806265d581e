/- Texts of ours, one behind the other: U15 U16 U17 V1 V2 V3 W5 V4 V5. -/
import Derived.Test.YthkjaiihlphgfaaZM8
import Derived.Test.YthkjaiihlphgfaaZR13
import Derived.Lib.QuietBelow
/- The program's polynomials: with 1 at the end (monic); the calls that are listed: Gcd. -/
namespace Go.Proofs.Ythkjaiihlphgfaa
open Go.RowKit

end Go.Proofs.Ythkjaiihlphgfaa

/- How many there are to try (tooMany, Tries). -/
namespace Go.Proofs.Ythkjaiihlphgfaa
open Go.RowKit

end Go.Proofs.Ythkjaiihlphgfaa

/- Does an element stand twice in a list (hasTwice)? -/
namespace Go.Proofs.Ythkjaiihlphgfaa
open Go.RowKit

end Go.Proofs.Ythkjaiihlphgfaa

/- The reference's polynomials: without noughts at the end (Trim); which may be (PolyMay). -/
namespace Go.Proofs.Ythkjaiihlphgfaa
open Go.RowKit

end Go.Proofs.Ythkjaiihlphgfaa

/- The reference's polynomials: which may be (PolyMay). -/
namespace Go.Proofs.Ythkjaiihlphgfaa
open Go.RowKit

end Go.Proofs.Ythkjaiihlphgfaa

/- The reference's polynomials: sums (PAdd). -/
namespace Go.Proofs.Ythkjaiihlphgfaa
open Go.RowKit

end Go.Proofs.Ythkjaiihlphgfaa

/- The same where the calls lay blocks: the worlds in which nothing that was there has turned. No Go text here. -/
namespace Go.Proofs.Ythkjaiihlphgfaa
open Go Go.Sort Go.RowKit

end Go.Proofs.Ythkjaiihlphgfaa

/- The reference's polynomials: products (PMul). -/
namespace Go.Proofs.Ythkjaiihlphgfaa
open Go.RowKit Go.Sort

end Go.Proofs.Ythkjaiihlphgfaa

/- The reference's polynomials: values of a polynomial that came in (value, PAt). -/
namespace Go.Proofs.Ythkjaiihlphgfaa
open Go.RowKit

end Go.Proofs.Ythkjaiihlphgfaa
