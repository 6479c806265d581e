/- Numbers to the base 64: a digit set, the others stay. No Go text here. -/
import Derived.Test.YtcgmllamiaflcaaZM4
namespace Go.Proofs.Ytcgmllamiaflcaa

end Go.Proofs.Ytcgmllamiaflcaa
