/- Plain mathematics of the reference's product: by polynomials, modulo the modulus; the same as the table's. A polynomial is a number to the base 64. No Go text here. -/
import Derived.Test.YtppggchhkckobaaGreatZM3
namespace Go.Proofs.YtppggchhkckobaaGreat

def dgt (p a j : Nat) : Nat := a / p ^ j % p
def FD.md (D : FD) (j : Nat) : Nat := dgt D.p D.low j

end Go.Proofs.YtppggchhkckobaaGreat
