/- PolySays: where both may be. -/
import Derived.Test.YtbnkekeeceicaaaGreatZL1
namespace Go.Proofs.YtbnkekeeceicaaaGreat
open Go.RowKit Go.Sort

end Go.Proofs.YtbnkekeeceicaaaGreat
