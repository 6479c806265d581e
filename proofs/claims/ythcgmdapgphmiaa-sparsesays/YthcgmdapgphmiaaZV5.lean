/- The reference's polynomials: values of a polynomial that came in (value, PAt). -/
import Derived.Test.YthcgmdapgphmiaaZU7
namespace Go.Proofs.Ythcgmdapgphmiaa
open Go.RowKit

end Go.Proofs.Ythcgmdapgphmiaa
