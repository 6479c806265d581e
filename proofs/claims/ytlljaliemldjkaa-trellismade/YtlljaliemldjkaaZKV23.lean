/- Trellises: how much a message counts, sign by sign. -/
import Derived.Test.YtlljaliemldjkaaZKV21
namespace Go.Proofs.Ytlljaliemldjkaa

/-- Products of numbers. -/
def prN (f : Nat → Nat) : Nat → Nat
  | 0 => 1
  | k + 1 => prN f k * f k
theorem prN_congr {f g : Nat → Nat} : ∀ N, (∀ u, u < N → f u = g u) → prN f N = prN g N
  | 0, _ => rfl
  | N + 1, h => by show prN f N * f N = prN g N * g N; rw [prN_congr N (fun u hu => h u (by omega)), h N (by omega)]
theorem prN_add (f : Nat → Nat) (A : Nat) : ∀ B, prN f (A + B) = prN f A * prN (fun j => f (A + j)) B
  | 0 => by show prN f A = prN f A * 1; rw [Nat.mul_one]
  | B + 1 => by
    show prN f (A + B) * f (A + B) = prN f A * (prN (fun j => f (A + j)) B * f (A + B))
    rw [prN_add f A B, Nat.mul_assoc]
theorem prN_ct (p : Nat → Bool) (a c : Nat) : ∀ N, prN (fun j => if p j = true then a else c) N = a ^ ct p N * c ^ (N - ct p N)
  | 0 => by show 1 = a ^ 0 * c ^ 0; rw [Nat.pow_zero, Nat.pow_zero]
  | N + 1 => by
    have hle := ct_up p N
    show prN (fun j => if p j = true then a else c) N * (if p N = true then a else c) = _
    rw [prN_ct p a c N]
    by_cases h : p N = true
    · have e : ct p (N + 1) = ct p N + 1 := by show ct p N + (if p N = true then 1 else 0) = _; rw [if_pos h]
      rw [if_pos h, e, show N + 1 - (ct p N + 1) = N - ct p N by omega, Nat.pow_succ, Nat.mul_right_comm]
    · have e : ct p (N + 1) = ct p N := by show ct p N + (if p N = true then 1 else 0) = _; rw [if_neg h, Nat.add_zero]
      rw [if_neg h, e, show N + 1 - ct p N = (N - ct p N) + 1 by omega, Nat.pow_succ, Nat.mul_assoc]
theorem prN_le {f : Nat → Nat} (h : ∀ j, f j ≤ 4) : ∀ N, prN f N ≤ 4 ^ N
  | 0 => Nat.le_refl _
  | N + 1 => by rw [Nat.pow_succ]; exact Nat.mul_le_mul (prN_le h N) (h N)
/-- How much a sign counts. -/
def spc (z : Nat → Nat) (R : Nat) (y : Nat → Int) (a b : Nat) (m : Nat → Nat) (n i : Nat) : Nat := if ((sgn' z R m n i : Nat) : Int) = y i then b - a else a
theorem spc_le {z : Nat → Nat} {R : Nat} {y : Nat → Int} {a b : Nat} {m : Nat → Nat} {n : Nat} (hab : a ≤ b) (hb : b ≤ 4) (i : Nat) : spc z R y a b m n i ≤ 4 := by unfold spc; split <;> omega
theorem cpp_prN {z : Nat → Nat} {R : Nat} {y : Nat → Int} {a b : Nat} {m : Nat → Nat} {n : Nat} : ∀ k, cpp z R y a b m n k = prN (spc z R y a b m n) (R * k)
  | 0 => by rw [Nat.mul_zero]; rfl
  | k + 1 => by
    rw [Nat.mul_add, Nat.mul_one, prN_add, ← cpp_prN k]
    show _ * cpw z R y a b k (snm m n (k + 1)) = _
    congr 1
    unfold cpw trn
    rw [← prN_ct]
    refine prN_congr R fun j hj => ?_
    unfold spc
    have e : sgn' z R m n (R * k + j) = sgb (z j) (snm m n (k + 1)) := by
      unfold sgn'
      rw [Nat.mul_add_mod, Nat.mod_eq_of_lt hj, Nat.mul_add_div (by omega), Nat.div_eq_of_lt hj, Nat.add_zero]
    rw [e, Nat.mul_comm k R]
    by_cases h : ((sgb (z j) (snm m n (k + 1)) : Nat) : Int) = y (R * k + j)
    · rw [if_pos h, if_neg (by simp [h])]
    · rw [if_neg h, if_pos (by simp [h])]
theorem smN_le {f : Nat → Nat} {C : Nat} : ∀ N, (∀ u, u < N → f u ≤ C) → smN f N ≤ N * C
  | 0, _ => Nat.zero_le _
  | N + 1, h => by
    have h1 := smN_le N (fun u hu => h u (by omega))
    have h2 := h N (by omega)
    show smN f N + f N ≤ _
    rw [Nat.add_mul, Nat.one_mul]
    omega
/-- What speaks for a bit. -/
theorem shE_one {z : Nat → Nat} {R : Nat} {y : Nat → Int} {a b n M j : Nat} (hj : j < n) : shE z R y a b n M (1 + j) = smN (fun u => cpt z R y a b n M u * dgs 2 n u j) (2 ^ n) := by
  unfold shE
  refine smN_congr _ fun u _ => ?_
  have e : shm (dgs 2 n u) n (n + M) (1 + j) = dgs 2 n u j := by
    unfold shm
    rw [if_neg (by omega), show 1 + j - 1 = j by omega, if_pos ⟨by omega, hj⟩]
  rw [e]
theorem shE_all {z : Nat → Nat} {R : Nat} {y : Nat → Int} {a b n M : Nat} : shE z R y a b n M 0 = smN (cpt z R y a b n M) (2 ^ n) := by
  unfold shE
  exact smN_congr _ fun u _ => Nat.mul_one _
end Go.Proofs.Ytlljaliemldjkaa
