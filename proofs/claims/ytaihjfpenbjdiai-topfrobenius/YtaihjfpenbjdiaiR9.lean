/- The reference: no field; what undoes a product, powers, logarithms. -/
import Derived.Test.YtaihjfpenbjdiaiR8
import Derived.Test.YtaihjfpenbjdiaiD1
namespace Go.Proofs.Ytaihjfpenbjdiai
open Go.RowKit

theorem pp_zero : (allB 65 fun q => decide (q < 2) || !((pp q).2 == 0) || (pp q).1 == 0) = true := by decide +kernel
def rf0 : Value := .agg #[.int .i64 0, .int .i64 0, .int .i64 0, .int .i64 0, .slice none 0 0]

/-! ### Plain mathematics -/
theorem pw_zero {D : FD} (_hD : D ∈ fieldsL) (a : Nat) : D.pw a 0 = 1 := by
  unfold FD.pw; rw [Nat.mul_zero, Nat.zero_mod]; rfl
theorem pw_succ {D : FD} (hD : D ∈ fieldsL) (a k : Nat) (h0 : a ≠ 0) : D.mul (D.pw a k) a = D.pw a (k + 1) := by
  have hp := pw_ne hD a k
  rw [FD.mul, if_neg (by omega), hp.2, Nat.mod_add_mod, FD.pw, Nat.mul_add, Nat.mul_one]
theorem inv_uniq {D : FD} (hD : D ∈ fieldsL) (a b : Nat) (ha : a < D.q) (hb : b < D.q) (h0 : a ≠ 0) (h : D.mul a b = 1) : b = D.pw a (D.q - 2) := by
  have F := fld hD
  have h1 := t11 hD ha h0
  rw [inv_nat hD ha h0, mulZ_nat F ha (pw_lt hD _ _)] at h1
  have h1 : D.mul a (D.pw a (D.q - 2)) = 1 := by exact_mod_cast h1
  have h2 := F.mul_assoc (D.pw a (D.q - 2)) a b
  rw [h, F.mul_comm _ a, h1, F.mul_comm 1 b, F.mul_one b hb, F.mul_one _ (pw_lt hD _ _)] at h2
  exact h2
theorem mul_gen {D : FD} (hD : D ∈ fieldsL) (a : Nat) (ha : a < D.q) : D.mul a D.gen = D.st a := by
  have F := fld hD
  have hs := List.all_eq_true.1 st_one D hD
  simp only [Bool.and_eq_true, beq_iff_eq, decide_eq_true_eq] at hs
  obtain ⟨⟨hs1, hs2⟩, hs3⟩ := hs
  rw [F.mul_comm, F.mul_eq D.gen a hs3 ha]
  by_cases hq : D.q = 2
  · have hg : D.gen = 1 := by omega
    rw [hg, F.lg_one]
    show a = D.st a
    by_cases h0 : a = 0
    · rw [h0, F.st_zero]
    · have : a = 1 := by omega
      rw [this, hs1, hg]
  · have h2 := F.q2
    have hg : D.lg D.gen = 1 := by
      have := F.lg_pow 1 (by omega)
      rw [show again D.st 1 1 = D.gen from hs1] at this
      exact this
    rw [hg]; rfl

/-! ### Calls -/
end Go.Proofs.Ytaihjfpenbjdiai
