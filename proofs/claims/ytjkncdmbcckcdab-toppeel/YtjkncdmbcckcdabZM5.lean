/- Numbers to the base 64: a digit set, the others stay. No Go text here. -/
import Derived.Test.YtjkncdmbcckcdabZM4
namespace Go.Proofs.Ytjkncdmbcckcdab

end Go.Proofs.Ytjkncdmbcckcdab
