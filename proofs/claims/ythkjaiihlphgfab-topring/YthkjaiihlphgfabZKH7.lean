/- Rings: how many values (the reference's RingMay), and the program's Ring. -/
import Derived.Test.YthkjaiihlphgfabZKH6
namespace Go.Proofs.Ythkjaiihlphgfab
open Go.RowKit Go.Sort

theorem pow_le_pow' {q a b : Nat} (hq : 1 ≤ q) (h : a ≤ b) : q ^ a ≤ q ^ b := Nat.pow_le_pow_right hq h

end Go.Proofs.Ythkjaiihlphgfab
