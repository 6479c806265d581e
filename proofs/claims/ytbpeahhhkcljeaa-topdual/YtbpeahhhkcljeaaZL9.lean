/- PolySays: where both may be. -/
import Derived.Test.YtbpeahhhkcljeaaZL1
namespace Go.Proofs.Ytbpeahhhkcljeaa
open Go.RowKit Go.Sort

end Go.Proofs.Ytbpeahhhkcljeaa
