/- Plain mathematics, gone on: the laws of Frobenius, traces and norms as they are asked for. -/
import Derived.Test.YtillljojdnofgaaZM9
namespace Go.Proofs.Ytillljojdnofgaa
open Go.RowKit

theorem frobZ_one {D : FD} (hD : D ∈ fieldsL) {x : Nat} (hx : x < D.q) : D.frobZ x 1 = (D.frob1 x : Nat) := by
  have m1 := (fld hD).m1
  rw [FD.frobZ, if_pos (nat_has hx), Int.toNat_natCast]
  by_cases hm : D.m = 1
  · have h := frob_all hD hx
    rw [hm] at h ⊢
    rw [show ((1 : Int) % ((1 : Nat) : Int)).toNat = 0 from rfl]
    exact congrArg _ h.symm
  · rw [show ((1 : Int) % (D.m : Int)).toNat = 1 from by rw [Int.emod_eq_of_lt (by omega) (by omega)]; rfl]
    rfl
theorem frobZ_back {D : FD} (hD : D ∈ fieldsL) {x : Nat} (hx : x < D.q) : D.frobZ (D.frob1 x : Nat) (-1) = x := by
  have m1 := (fld hD).m1
  rw [FD.frobZ, if_pos (nat_has (frob1_lt hD x)), Int.toNat_natCast]
  have e : ((-1 : Int) % (D.m : Int)).toNat = D.m - 1 := by
    have : (-1 : Int) % (D.m : Int) = D.m - 1 := by
      rw [← Int.add_emod_right, Int.emod_eq_of_lt (by omega) (by omega)]; omega
    omega
  rw [e, again_st, show D.m - 1 + 1 = D.m from by omega, frob_all hD hx]
theorem v1 {D : FD} (hD : D ∈ fieldsL) {x : Nat} (hx : x < D.q) : (D.powZ x D.q != (x : Int)) = false := by
  apply ne_false
  rw [powZ_size hD hD rfl (Nat.mod_self _) hx, Nat.mod_self]; rfl
theorem v2 {D : FD} (hD : D ∈ fieldsL) {x y : Nat} (hx : x < D.q) (hy : y < D.q) : (D.frobZ (D.addZ x y) 1 != D.addZ (D.frobZ x 1) (D.frobZ y 1)) = false := by
  have F := fld hD
  apply ne_false
  rw [addZ_nat F hx hy, frobZ_one hD (F.sum_lt _ _ hx hy), frobZ_one hD hx, frobZ_one hD hy, addZ_nat F (frob1_lt hD x) (frob1_lt hD y), frob1_add hD hx hy]
theorem v3 {D : FD} (hD : D ∈ fieldsL) {x y : Nat} (hx : x < D.q) (hy : y < D.q) : (D.frobZ (D.mulZ x y) 1 != D.mulZ (D.frobZ x 1) (D.frobZ y 1)) = false := by
  have F := fld hD
  apply ne_false
  rw [mulZ_nat F hx hy, frobZ_one hD (F.mul_lt _ _), frobZ_one hD hx, frobZ_one hD hy, mulZ_nat F (frob1_lt hD x) (frob1_lt hD y), frob1_mul hD]
theorem v4 {D : FD} (hD : D ∈ fieldsL) {x : Nat} (hx : x < D.q) : (D.frobZ x 1 != D.powZ x D.p) = false := by
  have F := fld hD
  have p2 := F.p2
  apply ne_false
  rw [frobZ_one hD hx, FD.powZ, if_neg (by simp [nat_has hx]), if_neg (by omega)]
  by_cases h0 : x = 0
  · rw [if_pos (by omega), if_neg (by omega), h0]; rfl
  · rw [if_neg (by omega), FD.frob1, if_neg h0, ← Int.natCast_emod, Int.toNat_natCast, Int.toNat_natCast]
    unfold FD.pw
    rw [Nat.mul_mod (D.lg x) (D.p % (D.q - 1)), Nat.mod_mod, ← Nat.mul_mod]
theorem v5 {D : FD} (hD : D ∈ fieldsL) {x : Nat} (hx : x < D.q) : (D.frobZ (D.frobZ x 1) (-1) != (x : Int)) = false := by
  apply ne_false
  rw [frobZ_one hD hx, frobZ_back hD hx]
theorem traceZ_nat {D : FD} {x : Nat} (hx : x < D.q) : D.traceZ x = (D.traceTo x D.m : Nat) := by rw [FD.traceZ, if_pos (nat_has hx), Int.toNat_natCast]
theorem normZ_nat {D : FD} {x : Nat} (hx : x < D.q) : D.normZ x = (D.normTo x D.m : Nat) := by rw [FD.normZ, if_pos (nat_has hx), Int.toNat_natCast]
theorem v6 {D : FD} (hD : D ∈ fieldsL) {x : Nat} (hx : x < D.q) : 0 ≤ D.traceZ x ∧ D.traceZ x < D.p ∧ 0 ≤ D.normZ x ∧ D.normZ x < D.p := by
  have h := chk_frob hD hx
  rw [traceZ_nat hx, normZ_nat hx]; omega
theorem v7 {D : FD} (hD : D ∈ fieldsL) {x y : Nat} (hx : x < D.q) (hy : y < D.q) : (D.traceZ (D.addZ x y) != D.addZ (D.traceZ x) (D.traceZ y)) = false := by
  have F := fld hD
  apply ne_false
  rw [addZ_nat F hx hy, traceZ_nat (F.sum_lt _ _ hx hy), traceZ_nat hx, traceZ_nat hy, addZ_nat F (traceTo_lt hD x hx _) (traceTo_lt hD y hy _), traceTo_add hD hx hy]
theorem v8 {D : FD} (hD : D ∈ fieldsL) {x y : Nat} (hx : x < D.q) (hy : y < D.q) : (D.normZ (D.mulZ x y) != D.mulZ (D.normZ x) (D.normZ y)) = false := by
  have F := fld hD
  apply ne_false
  rw [mulZ_nat F hx hy, normZ_nat (F.mul_lt _ _), normZ_nat hx, normZ_nat hy, mulZ_nat F (normTo_lt hD x _) (normTo_lt hD y _), normTo_mul hD]
end Go.Proofs.Ytillljojdnofgaa
