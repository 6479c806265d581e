/- The reference: traces and norms. -/
import Derived.Test.YtaihjfpenbjdiaiR11
namespace Go.Proofs.Ytaihjfpenbjdiai
open Go.RowKit

theorem frobZ_nat {D : FD} {x j : Nat} (ha : D.has (x : Int) = true) (hj : j < D.m) : D.frobZ x j = (again D.frob1 j x : Nat) := by
  rw [FD.frobZ, if_pos ha, ← Int.natCast_emod, Int.toNat_natCast, Int.toNat_natCast, Nat.mod_eq_of_lt hj]

end Go.Proofs.Ytaihjfpenbjdiai
