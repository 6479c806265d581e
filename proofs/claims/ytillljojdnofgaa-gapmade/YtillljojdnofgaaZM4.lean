/- Plain mathematics of the reference's product: by polynomials, modulo the modulus; the same as the table's. A polynomial is a number to the base 64. No Go text here. -/
import Derived.Test.YtillljojdnofgaaZM3
namespace Go.Proofs.Ytillljojdnofgaa

end Go.Proofs.Ytillljojdnofgaa
