/- The reference: a polynomial's value at an element (value). -/
import Derived.Test.YtaihjfpenbjdiaiR14
import Derived.Deep.RegionHeld3
namespace Go.Proofs.Ytaihjfpenbjdiai
open Go.RowKit

/-- The value of n coefficients at x, from the highest one down, k of them. -/
def FD.val (D : FD) (c : Nat → Nat) (n x : Nat) : Nat → Nat
  | 0 => 0
  | k + 1 => sumD D.p D.q (D.mul (D.val c n x k) x) (c (n - 1 - k))
theorem val_lt {D : FD} (hD : D ∈ fieldsL) (c : Nat → Nat) (n x : Nat) (hc : ∀ j, c j < D.q) : ∀ k, D.val c n x k < D.q
  | 0 => by have := (fld hD).q2; show 0 < D.q; omega
  | k + 1 => (fld hD).sum_lt _ _ ((fld hD).mul_lt _ _) (hc _)

theorem bel_up' {B : Nat} {w W w1 : World} (h0 : Below B w W) (h : Below W.heap.size W w1) (hB : B ≤ w.heap.size := by exact Nat.le_refl _) : Below B w w1 := h0.trans (h.mono (Nat.le_trans hB h0.size))

end Go.Proofs.Ytaihjfpenbjdiai
