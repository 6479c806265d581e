/- Numbers to the base 64: a digit set, the others stay. No Go text here. -/
import Derived.Test.YthkjaiihlphgfabZM4
namespace Go.Proofs.Ythkjaiihlphgfab

end Go.Proofs.Ythkjaiihlphgfab
