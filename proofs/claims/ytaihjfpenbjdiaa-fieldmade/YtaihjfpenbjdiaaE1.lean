/- The walk of the statement TopField. -/
import Derived.Test.YtaihjfpenbjdiaaD1
namespace Go.Proofs.Ytaihjfpenbjdiaa
open Go.RowKit

theorem pick_nat (c : Int) {n : Nat} (h : 0 < n) : ∃ x : Nat, pick c n = x ∧ x < n := by
  have h1 := pick_lo c n (by omega)
  have h2 := pick_hi c n (by omega)
  exact ⟨(pick c n).toNat, by omega, by omega⟩
theorem eq_true' {a b : Int} (h : a = b) : (a == b) = true := beq_iff_eq.2 h
theorem eq_false' {a b : Int} (h : a ≠ b) : (a == b) = false := beq_eq_false_iff_ne.2 h

theorem below_drewN' {B : Nat} {w w' : World} (h : Below B w w') (n : Nat) : Below B w (w'.drewN n) := ⟨h.os, h.tape, h.output, h.size, h.block⟩
theorem logZ_bd {D : FD} (hD : D ∈ fieldsL) {x : Nat} (hx : x < D.q) : -1 ≤ D.logZ x ∧ D.logZ x ≤ 64 := by
  have F := fld hD
  have := F.q64
  rw [FD.logZ]
  split
  · rename_i h
    have := (F.lg_is x hx (by omega)).1
    rw [Int.toNat_natCast]; omega
  · omega

end Go.Proofs.Ytaihjfpenbjdiaa
