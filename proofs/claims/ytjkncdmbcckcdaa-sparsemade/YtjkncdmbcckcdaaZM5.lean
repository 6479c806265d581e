/- Numbers to the base 64: a digit set, the others stay. No Go text here. -/
import Derived.Test.YtjkncdmbcckcdaaZM4
namespace Go.Proofs.Ytjkncdmbcckcdaa

end Go.Proofs.Ytjkncdmbcckcdaa
