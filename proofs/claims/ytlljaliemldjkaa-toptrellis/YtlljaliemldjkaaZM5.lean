/- Numbers to the base 64: a digit set, the others stay. No Go text here. -/
import Derived.Test.YtlljaliemldjkaaZM4
namespace Go.Proofs.Ytlljaliemldjkaa

end Go.Proofs.Ytlljaliemldjkaa
