/- PolySays: where both may be. -/
import Derived.Test.YtpgldgicblhjiaaZL1
namespace Go.Proofs.Ytpgldgicblhjiaa
open Go.RowKit Go.Sort

end Go.Proofs.Ytpgldgicblhjiaa
