/- The reference: logarithms, Frobenius, traces and norms. -/
import Derived.Test.YtaihjfpenbjdiaiR10
namespace Go.Proofs.Ytaihjfpenbjdiai
open Go.RowKit

def FD.traceTo (D : FD) (a : Nat) : Nat → Nat
  | 0 => 0
  | k + 1 => sumD D.p D.q (D.traceTo a k) (again D.frob1 k a)
def FD.normTo (D : FD) (a : Nat) : Nat → Nat
  | 0 => 1
  | k + 1 => D.mul (D.normTo a k) (again D.frob1 k a)
def FD.traceZ (D : FD) (a : Int) : Int := if D.has a = true then (D.traceTo a.toNat D.m : Nat) else -1
def FD.normZ (D : FD) (a : Int) : Int := if D.has a = true then (D.normTo a.toNat D.m : Nat) else -1
theorem traceTo_lt {D : FD} (hD : D ∈ fieldsL) (a : Nat) (ha : a < D.q) : ∀ k, D.traceTo a k < D.q
  | 0 => by have := (fld hD).q2; show 0 < D.q; omega
  | k + 1 => (fld hD).sum_lt _ _ (traceTo_lt hD a ha k) (frob_lt hD a ha k)
theorem normTo_lt {D : FD} (hD : D ∈ fieldsL) (a : Nat) : ∀ k, D.normTo a k < D.q
  | 0 => by have := (fld hD).q2; show 1 < D.q; omega
  | k + 1 => (fld hD).mul_lt _ _

end Go.Proofs.Ytaihjfpenbjdiai
