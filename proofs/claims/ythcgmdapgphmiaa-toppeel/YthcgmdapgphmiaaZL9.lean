/- PolySays: where both may be. -/
import Derived.Test.YthcgmdapgphmiaaZL1
namespace Go.Proofs.Ythcgmdapgphmiaa
open Go.RowKit Go.Sort

end Go.Proofs.Ythcgmdapgphmiaa
