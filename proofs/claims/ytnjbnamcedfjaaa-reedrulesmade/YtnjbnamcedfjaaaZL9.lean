/- PolySays: where both may be. -/
import Derived.Test.YtnjbnamcedfjaaaZL1
namespace Go.Proofs.Ytnjbnamcedfjaaa
open Go.RowKit Go.Sort

end Go.Proofs.Ytnjbnamcedfjaaa
