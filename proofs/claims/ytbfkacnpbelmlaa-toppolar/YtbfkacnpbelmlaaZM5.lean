/- Numbers to the base 64: a digit set, the others stay. No Go text here. -/
import Derived.Test.YtbfkacnpbelmlaaZM4
namespace Go.Proofs.Ytbfkacnpbelmlaa

end Go.Proofs.Ytbfkacnpbelmlaa
