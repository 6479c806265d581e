/- Numbers to the base 64: a digit set, the others stay. No Go text here. -/
import Derived.Test.YthkjaiihlphgfaaZM4
namespace Go.Proofs.Ythkjaiihlphgfaa

end Go.Proofs.Ythkjaiihlphgfaa
