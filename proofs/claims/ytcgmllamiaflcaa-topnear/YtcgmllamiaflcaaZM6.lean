/- Plain mathematics of the reference's product: checked against the table's, one field after the other. No Go text here. -/
import Derived.Test.YtcgmllamiaflcaaZM5
namespace Go.Proofs.Ytcgmllamiaflcaa

end Go.Proofs.Ytcgmllamiaflcaa
