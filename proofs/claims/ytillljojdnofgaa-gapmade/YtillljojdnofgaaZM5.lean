/- Numbers to the base 64: a digit set, the others stay. No Go text here. -/
import Derived.Test.YtillljojdnofgaaZM4
namespace Go.Proofs.Ytillljojdnofgaa

end Go.Proofs.Ytillljojdnofgaa
