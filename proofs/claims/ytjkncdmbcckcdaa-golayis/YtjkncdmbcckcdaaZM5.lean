/- Numbers to the base 64: a digit set, the others stay. No Go text here. -/
import Derived.Test.YtjkncdmbcckcdaaZM4
namespace Go.Proofs.Ytjkncdmbcckcdaa

theorem getN_lt (N t : Nat) : getN N t < 64 := Nat.mod_lt _ (by decide)
theorem split64 (N t : Nat) : ∃ hi lo, lo < 64 ^ t ∧ N = (hi * 64 + getN N t) * 64 ^ t + lo := by
  have hp : 0 < 64 ^ t := Nat.pow_pos (by decide)
  refine ⟨N / 64 ^ t / 64, N % 64 ^ t, Nat.mod_lt _ hp, ?_⟩
  unfold getN
  rw [Nat.div_add_mod' (N / 64 ^ t) 64, Nat.div_add_mod' N (64 ^ t)]
theorem getN_same (hi v lo t : Nat) (hv : v < 64) (hl : lo < 64 ^ t) : getN ((hi * 64 + v) * 64 ^ t + lo) t = v := by
  have hp : 0 < 64 ^ t := Nat.pow_pos (by decide)
  unfold getN
  rw [Nat.add_comm, Nat.add_mul_div_right _ _ hp, Nat.div_eq_of_lt hl, Nat.zero_add]; omega
theorem getN_above (hi v lo t j : Nat) (hv : v < 64) (hl : lo < 64 ^ t) (hj : t < j) : getN ((hi * 64 + v) * 64 ^ t + lo) j = hi / 64 ^ (j - t - 1) % 64 := by
  have hp : 0 < 64 ^ t := Nat.pow_pos (by decide)
  unfold getN
  have e : 64 ^ j = 64 ^ t * 64 * 64 ^ (j - t - 1) := by
    rw [← Nat.pow_succ, ← Nat.pow_add]; congr 1; omega
  rw [e, ← Nat.div_div_eq_div_mul, ← Nat.div_div_eq_div_mul, Nat.add_comm, Nat.add_mul_div_right _ _ hp, Nat.div_eq_of_lt hl, Nat.zero_add]
  have : (hi * 64 + v) / 64 = hi := by omega
  rw [this]
theorem getN_below (c lo t j : Nat) (hj : j < t) : getN (c * 64 ^ t + lo) j = lo / 64 ^ j % 64 := by
  have hp : 0 < 64 ^ j := Nat.pow_pos (by decide)
  unfold getN
  have e : 64 ^ t = 64 ^ (t - j - 1) * 64 * 64 ^ j := by
    rw [← Nat.pow_succ, ← Nat.pow_add]; congr 1; omega
  rw [e, ← Nat.mul_assoc, ← Nat.mul_assoc, Nat.add_comm, Nat.add_mul_div_right _ _ hp, Nat.add_mul_mod_self_right]
theorem setN_is (N t v : Nat) (hi lo : Nat) (hN : N = (hi * 64 + getN N t) * 64 ^ t + lo) : setN N t v = (hi * 64 + v) * 64 ^ t + lo := by
  unfold setN
  rw [Nat.add_mul] at hN
  rw [Nat.add_mul]
  generalize getN N t * 64 ^ t = d at *
  generalize v * 64 ^ t = e at *
  omega
theorem getN_setN (N t v j : Nat) (hv : v < 64) : getN (setN N t v) j = if j = t then v else getN N j := by
  obtain ⟨hi, lo, hl, hN⟩ := split64 N t
  rw [setN_is N t v hi lo hN]
  by_cases e : j = t
  · subst e; rw [if_pos rfl, getN_same hi v lo j hv hl]
  · rw [if_neg e]
    by_cases hj : t < j
    · rw [getN_above hi v lo t j hv hl hj]
      conv => rhs; rw [hN]
      rw [getN_above hi _ lo t j (getN_lt _ _) hl hj]
    · rw [getN_below _ lo t j (by omega)]
      conv => rhs; rw [hN]
      rw [getN_below _ lo t j (by omega)]
theorem getN_zero (j : Nat) : getN 0 j = 0 := by simp [getN]
end Go.Proofs.Ytjkncdmbcckcdaa
