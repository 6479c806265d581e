/- Plain mathematics of the reference's product: by polynomials, modulo the modulus; the same as the table's. A polynomial is a number to the base 64. No Go text here. -/
import Derived.Test.YtmklnjkallhphaaZM3
namespace Go.Proofs.Ytmklnjkallhphaa

def dgt (p a j : Nat) : Nat := a / p ^ j % p
def getN (N t : Nat) : Nat := N / 64 ^ t % 64
/-- Digit t is set. -/
def setN (N t v : Nat) : Nat := N - getN N t * 64 ^ t + v * 64 ^ t
def FD.md (D : FD) (j : Nat) : Nat := dgt D.p D.low j

end Go.Proofs.Ytmklnjkallhphaa
