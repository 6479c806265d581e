/- Plain mathematics of the reference's product: checked against the table's, one field after the other. No Go text here. -/
import Derived.Test.YtjkncdmbcckcdaaZM5
namespace Go.Proofs.Ytjkncdmbcckcdaa

end Go.Proofs.Ytjkncdmbcckcdaa
