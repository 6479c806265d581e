/- Plain mathematics of all fields up to 64 elements: what each table must meet is checked one field after the other; what follows for all. No Go text here. -/
import Derived.Test.YtjkncdmbcckcdaaZA1
namespace Go.Proofs.Ytjkncdmbcckcdaa

end Go.Proofs.Ytjkncdmbcckcdaa
