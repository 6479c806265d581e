/- PolySays: where both may be. -/
import Derived.Test.YtbfkacnpbelmlaaZL1
namespace Go.Proofs.Ytbfkacnpbelmlaa
open Go.RowKit Go.Sort

end Go.Proofs.Ytbfkacnpbelmlaa
