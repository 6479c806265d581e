/- PolySays: where both may be. -/
import Derived.Test.YtbnkekeeceicaaaZL1
namespace Go.Proofs.Ytbnkekeeceicaaa
open Go.RowKit Go.Sort

end Go.Proofs.Ytbnkekeeceicaaa
