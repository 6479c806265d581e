/- Texts of ours, one behind the other: L1 L2 L3 L4 L5 L6 L7 W8 L8. -/
import Derived.Test.YtlljaliemldjkaaZV11
import Derived.Test.YtlljaliemldjkaaZR5
/- What two answers are held together by: numbers, lists, lists of lists. -/
namespace Go.Proofs.Ytlljaliemldjkaa
open Go.RowKit

end Go.Proofs.Ytlljaliemldjkaa

/- PolySays: values (polyAt). -/
namespace Go.Proofs.Ytlljaliemldjkaa
open Go.RowKit

end Go.Proofs.Ytlljaliemldjkaa

/- PolySays: roots and parts (polyRoots). -/
namespace Go.Proofs.Ytlljaliemldjkaa
open Go.RowKit

end Go.Proofs.Ytlljaliemldjkaa

/- PolySays: roots and parts (polyRoots), the rest. -/
namespace Go.Proofs.Ytlljaliemldjkaa
open Go.RowKit

end Go.Proofs.Ytlljaliemldjkaa

/- PolySays: a polynomial through points (polyThrough). -/
namespace Go.Proofs.Ytlljaliemldjkaa
open Go.RowKit Go.Sort

end Go.Proofs.Ytlljaliemldjkaa

/- PolySays: a polynomial through points (polyThrough), where there is one. -/
namespace Go.Proofs.Ytlljaliemldjkaa
open Go.RowKit Go.Sort

end Go.Proofs.Ytlljaliemldjkaa

/- PolySays: its parts put together; where an argument may not be. -/
namespace Go.Proofs.Ytlljaliemldjkaa
open Go.RowKit Go.Sort

end Go.Proofs.Ytlljaliemldjkaa

/- Lists that were made and lie in memory that is there: kept while more is made. What two answers with lists are held together by, whatever the error. -/
namespace Go.Proofs.Ytlljaliemldjkaa
open Go.RowKit

end Go.Proofs.Ytlljaliemldjkaa

/- PolySays: where an argument may not be. -/
namespace Go.Proofs.Ytlljaliemldjkaa
open Go.RowKit Go.Sort

end Go.Proofs.Ytlljaliemldjkaa
