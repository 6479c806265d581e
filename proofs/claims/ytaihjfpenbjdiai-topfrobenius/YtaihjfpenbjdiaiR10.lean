/- The reference: powers, logarithms, and what Frobenius makes. -/
import Derived.Test.YtaihjfpenbjdiaiR9
namespace Go.Proofs.Ytaihjfpenbjdiai
open Go.RowKit

/-! ### Plain mathematics -/
/-- An element times itself, so many times. -/
def FD.pwr (D : FD) (x k : Nat) : Nat := again (fun r => D.mul r x) k 1
/-- An element to the power p. -/
def FD.frob1 (D : FD) (a : Nat) : Nat := if a = 0 then 0 else D.pw a D.p
def FD.frobZ (D : FD) (a t : Int) : Int := if D.has a = true then (again D.frob1 (t % (D.m : Int)).toNat a.toNat : Nat) else -1

theorem pwr_lt {D : FD} (hD : D ∈ fieldsL) (x : Nat) : ∀ k, D.pwr x k < D.q
  | 0 => by have := (fld hD).q2; show 1 < D.q; omega
  | k + 1 => (fld hD).mul_lt _ _
theorem pwr_is {D : FD} (hD : D ∈ fieldsL) (x : Nat) (h0 : x ≠ 0) : ∀ k, D.pwr x k = D.pw x k
  | 0 => (pw_zero hD x).symm
  | k + 1 => by
    show D.mul (D.pwr x k) x = _
    rw [pwr_is hD x h0 k, pw_succ hD x k h0]
theorem pwr_frob {D : FD} (hD : D ∈ fieldsL) (x : Nat) : D.pwr x D.p = D.frob1 x := by
  unfold FD.frob1
  by_cases h0 : x = 0
  · have := (fld hD).p2
    rw [if_pos h0, h0, show D.p = (D.p - 1) + 1 from by omega]
    show D.mul (D.pwr 0 (D.p - 1)) 0 = 0
    simp [FD.mul]
  · rw [if_neg h0, pwr_is hD x h0]
theorem frob1_lt {D : FD} (hD : D ∈ fieldsL) (x : Nat) : D.frob1 x < D.q := by rw [← pwr_frob hD]; exact pwr_lt hD x D.p
theorem frob_lt {D : FD} (hD : D ∈ fieldsL) (x : Nat) (hx : x < D.q) (k : Nat) : again D.frob1 k x < D.q := again_lt _ _ (fun a _ => frob1_lt hD a) k x hx

theorem emod_tmod (k n : Int) : k.tmod n % n = k % n := by
  rw [Int.tmod_def]
  exact Int.sub_mul_emod_self_left _ _ _
theorem emod_of_tmod_neg (k n : Int) (hn : 0 < n) (h : k.tmod n < 0) : k.tmod n + n = k % n := by
  have h2 := Int.lt_tmod_of_pos k hn
  rw [← emod_tmod k n, ← Int.add_emod_right (k.tmod n) n]
  exact (Int.emod_eq_of_lt (by omega) (by omega)).symm
theorem emod_of_tmod_pos (k n : Int) (hn : 0 < n) (h : 0 ≤ k.tmod n) : k.tmod n = k % n := by
  have h2 := Int.tmod_lt_of_pos k hn
  rw [← emod_tmod k n]
  exact (Int.emod_eq_of_lt h h2).symm

/-! ### Calls -/
end Go.Proofs.Ytaihjfpenbjdiai
