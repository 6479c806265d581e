/- What is to be true of a field, in the words of its calls. -/
import Derived.Test.YtmnkablobhdbjaaZC2
namespace Go.Proofs.Ytmnkablobhdbjaa
open Go.RowKit

theorem addZ_nat {D : FD} (_F : Fld D) {x y : Nat} (hx : x < D.q) (hy : y < D.q) : D.addZ x y = (sumD D.p D.q x y : Nat) := by
  rw [FD.addZ, if_pos ⟨nat_has hx, nat_has hy⟩]; rfl
theorem mulZ_nat {D : FD} (_F : Fld D) {x y : Nat} (hx : x < D.q) (hy : y < D.q) : D.mulZ x y = (D.mul x y : Nat) := by
  rw [FD.mulZ, if_pos ⟨nat_has hx, nat_has hy⟩]; rfl
theorem negZ_nat {D : FD} (_F : Fld D) {x : Nat} (hx : x < D.q) : D.negZ x = (negD D.p D.q x : Nat) := by
  rw [FD.negZ, if_pos (nat_has hx)]; rfl
theorem ne_false {a b : Int} (h : a = b) : (a != b) = false := by rw [h]; simp

theorem st_one : fieldsL.all (fun D => D.st 1 == D.gen && decide (D.gen < D.q) && decide (D.gen ≠ 0)) = true := by decide +kernel

theorem t1 {D : FD} (hD : D ∈ fieldsL) {x y : Nat} (hx : x < D.q) (hy : y < D.q) : (D.addZ x y != D.addZ y x) = false := by
  have F := fld hD
  exact ne_false (by rw [addZ_nat F hx hy, addZ_nat F hy hx, F.add_comm])
theorem t2 {D : FD} (hD : D ∈ fieldsL) {x y : Nat} (hx : x < D.q) (hy : y < D.q) : (D.mulZ x y != D.mulZ y x) = false := by
  have F := fld hD
  exact ne_false (by rw [mulZ_nat F hx hy, mulZ_nat F hy hx, F.mul_comm])
theorem t9 {D : FD} (hD : D ∈ fieldsL) {x y : Nat} (hx : x < D.q) (hy : y < D.q) : (D.subZ (D.addZ x y) y != (x : Int)) = false := by
  have F := fld hD
  refine ne_false ?_
  rw [FD.subZ, addZ_nat F hx hy, negZ_nat F hy, addZ_nat F (F.sum_lt x y hx hy) (F.neg_lt y hy), F.add_assoc x y _ hx hy (F.neg_lt y hy), F.sum_neg y hy, F.sum_zero x hx]
theorem t3 {D : FD} (hD : D ∈ fieldsL) {x y z : Nat} (hx : x < D.q) (hy : y < D.q) (hz : z < D.q) : (D.addZ (D.addZ x y) z != D.addZ x (D.addZ y z)) = false := by
  have F := fld hD
  refine ne_false ?_
  rw [addZ_nat F hx hy, addZ_nat F hy hz, addZ_nat F (F.sum_lt x y hx hy) hz, addZ_nat F hx (F.sum_lt y z hy hz), F.add_assoc x y z hx hy hz]
theorem t4 {D : FD} (hD : D ∈ fieldsL) {x y z : Nat} (hx : x < D.q) (hy : y < D.q) (hz : z < D.q) : (D.mulZ (D.mulZ x y) z != D.mulZ x (D.mulZ y z)) = false := by
  have F := fld hD
  refine ne_false ?_
  rw [mulZ_nat F hx hy, mulZ_nat F hy hz, mulZ_nat F (F.mul_lt x y) hz, mulZ_nat F hx (F.mul_lt y z), F.mul_assoc]
theorem t5 {D : FD} (hD : D ∈ fieldsL) {x y z : Nat} (hx : x < D.q) (hy : y < D.q) (hz : z < D.q) : (D.mulZ x (D.addZ y z) != D.addZ (D.mulZ x y) (D.mulZ x z)) = false := by
  have F := fld hD
  refine ne_false ?_
  rw [addZ_nat F hy hz, mulZ_nat F hx (F.sum_lt y z hy hz), mulZ_nat F hx hy, mulZ_nat F hx hz, addZ_nat F (F.mul_lt x y) (F.mul_lt x z), F.distrib x y z hy hz]

theorem t6 {D : FD} (hD : D ∈ fieldsL) {x : Nat} (hx : x < D.q) : (D.addZ x 0 != (x : Int)) = false := by
  have F := fld hD
  refine ne_false ?_
  have := addZ_nat F hx (show 0 < D.q from by omega)
  rw [show ((0 : Nat) : Int) = 0 from rfl] at this
  rw [this, F.sum_zero x hx]
theorem t7 {D : FD} (hD : D ∈ fieldsL) {x : Nat} (hx : x < D.q) : (D.mulZ x 1 != (x : Int)) = false := by
  have F := fld hD
  refine ne_false ?_
  have := mulZ_nat F hx (show 1 < D.q from F.q2)
  rw [show ((1 : Nat) : Int) = 1 from rfl] at this
  rw [this, F.mul_one x hx]
theorem t8 {D : FD} (hD : D ∈ fieldsL) {x : Nat} (hx : x < D.q) : (D.addZ x (D.negZ x) != 0) = false := by
  have F := fld hD
  refine ne_false ?_
  rw [negZ_nat F hx, addZ_nat F hx (F.neg_lt x hx), F.sum_neg x hx]; rfl
theorem inv_zero {D : FD} {x : Nat} (hx : x < D.q) (h0 : x = 0) : D.powZ x (-1) = -1 := by
  rw [FD.powZ, if_neg (by simp [nat_has hx]), if_neg (by omega), if_pos (by omega), if_pos (by omega)]
theorem inv_nat {D : FD} (hD : D ∈ fieldsL) {x : Nat} (hx : x < D.q) (h0 : x ≠ 0) : D.powZ x (-1) = (D.pw x (D.q - 2) : Nat) := by
  have F := fld hD
  have h2 := F.q2
  rw [FD.powZ, if_neg (by simp [nat_has hx]), if_neg (by omega), if_neg (by omega)]
  have : ((-1 : Int) % ((D.q - 1 : Nat) : Int)).toNat = (D.q - 2) := by
    have e : (-1 : Int) = ((D.q - 2 : Nat) : Int) + (-1) * ((D.q - 1 : Nat) : Int) := by omega
    rw [e, Int.add_mul_emod_self_right, ← Int.natCast_emod, Int.toNat_natCast]
    exact Nat.mod_eq_of_lt (by omega)
  rw [this]; rfl
theorem pw_lt {D : FD} (hD : D ∈ fieldsL) (x : Nat) (k : Nat) : D.pw x k < D.q := by
  have F := fld hD
  exact F.pow_lt _ (Nat.mod_lt _ (by have := F.q2; omega))
theorem pw_ne {D : FD} (hD : D ∈ fieldsL) (x : Nat) (k : Nat) : D.pw x k ≠ 0 ∧ D.lg (D.pw x k) = D.lg x * k % (D.q - 1) := by
  have F := fld hD
  have hn : D.lg x * k % (D.q - 1) < D.q - 1 := Nat.mod_lt _ (by have := F.q2; omega)
  exact ⟨(F.full _ hn).1, F.lg_pow _ hn⟩
theorem t11 {D : FD} (hD : D ∈ fieldsL) {x : Nat} (hx : x < D.q) (h0 : x ≠ 0) : D.mulZ x (D.powZ x (-1)) = 1 := by
  have F := fld hD
  have h2 := F.q2
  have hp := pw_ne hD x (D.q - 2)
  rw [inv_nat hD hx h0, mulZ_nat F hx (pw_lt hD _ _), FD.mul, if_neg (by omega), hp.2, Nat.add_mod_mod, show D.lg x + D.lg x * (D.q - 2) = D.lg x * (D.q - 1) from by
    rw [show D.q - 1 = (D.q - 2) + 1 from by omega, Nat.mul_add, Nat.mul_one]; omega, Nat.mul_mod_left]
  rfl
theorem t12 {D : FD} (hD : D ∈ fieldsL) {x : Nat} (hx : x < D.q) (h0 : x ≠ 0) : D.powZ D.gen (D.logZ x) = x := by
  have F := fld hD
  have h2 := F.q2
  have hs := List.all_eq_true.1 st_one D hD
  simp only [Bool.and_eq_true, beq_iff_eq, decide_eq_true_eq] at hs
  obtain ⟨⟨hs1, hs2⟩, hs3⟩ := hs
  have hl := F.lg_is x hx h0
  rw [FD.logZ, if_pos ⟨nat_has hx, by omega⟩, Int.toNat_natCast, FD.powZ, if_neg (by simp [nat_has hs2])]
  by_cases hk : D.lg x = 0
  · rw [if_pos (by omega)]
    have : again D.st 0 1 = x := hk ▸ hl.2
    rw [← this]; rfl
  · rw [if_neg (by omega), if_neg (by omega)]
    have hg : D.lg D.gen = 1 := by
      have := F.lg_pow 1 (by omega)
      rw [show again D.st 1 1 = D.gen from hs1] at this
      exact this
    rw [Int.toNat_natCast, ← Int.natCast_emod, Int.toNat_natCast, FD.pw, hg, Nat.one_mul, Nat.mod_mod, Nat.mod_eq_of_lt hl.1, hl.2]
end Go.Proofs.Ytmnkablobhdbjaa
