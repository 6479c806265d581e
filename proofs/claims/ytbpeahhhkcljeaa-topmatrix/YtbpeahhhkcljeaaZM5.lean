/- Numbers to the base 64: a digit set, the others stay. No Go text here. -/
import Derived.Test.YtbpeahhhkcljeaaZM4
namespace Go.Proofs.Ytbpeahhhkcljeaa

end Go.Proofs.Ytbpeahhhkcljeaa
