/- Plain mathematics of the reference's product: by polynomials, modulo the modulus; the same as the table's. A polynomial is a number to the base 64. No Go text here. -/
import Derived.Test.YtjkncdmbcckcdaaZM3
namespace Go.Proofs.Ytjkncdmbcckcdaa

def dgt (p a j : Nat) : Nat := a / p ^ j % p
def getN (N t : Nat) : Nat := N / 64 ^ t % 64
/-- Digit t is set. -/
def setN (N t v : Nat) : Nat := N - getN N t * 64 ^ t + v * 64 ^ t
/-- The number of n digits, from the highest one down, k of them. -/
def hornerN (p N n : Nat) : Nat → Nat
  | 0 => 0
  | k + 1 => hornerN p N n k * p + getN N (n - 1 - k)
def convIn (p a b i N : Nat) : Nat → Nat
  | 0 => N
  | k + 1 => setN (convIn p a b i N k) (i + k) ((getN (convIn p a b i N k) (i + k) + dgt p a i * dgt p b k) % p)
def convOut (p m a b : Nat) : Nat → Nat
  | 0 => 0
  | i + 1 => convIn p a b i (convOut p m a b i) m
def redIn (p m : Nat) (md : Nat → Nat) (i N : Nat) : Nat → Nat
  | 0 => N
  | k + 1 => setN (redIn p m md i N k) (i - m + k) ((getN (redIn p m md i N k) (i - m + k) + getN (redIn p m md i N k) i * (p - md k)) % p)
def redOut (p m : Nat) (md : Nat → Nat) (N : Nat) : Nat → Nat
  | 0 => N
  | j + 1 => setN (redIn p m md (2 * m - 1 - j) (redOut p m md N j) m) (2 * m - 1 - j) 0
/-- The reference's product. -/
def rmulN (p m : Nat) (md : Nat → Nat) (a b : Nat) : Nat := if m = 1 then a * b % p else hornerN p (redOut p m md (convOut p m a b m) m) m m
def FD.md (D : FD) (j : Nat) : Nat := dgt D.p D.low j

end Go.Proofs.Ytjkncdmbcckcdaa
