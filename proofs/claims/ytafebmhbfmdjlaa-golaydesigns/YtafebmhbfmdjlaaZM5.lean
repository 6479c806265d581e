/- Numbers to the base 64: a digit set, the others stay. No Go text here. -/
import Derived.Test.YtafebmhbfmdjlaaZM4
namespace Go.Proofs.Ytafebmhbfmdjlaa

end Go.Proofs.Ytafebmhbfmdjlaa
