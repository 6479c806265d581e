/- Plain mathematics of the reference's product: checked against the table's, one field after the other. No Go text here. -/
import Derived.Test.YtjkncdmbcckcdabZM5
namespace Go.Proofs.Ytjkncdmbcckcdab

end Go.Proofs.Ytjkncdmbcckcdab
