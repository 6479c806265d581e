/- Texts of ours, one behind the other: KV22 KV23 KV24 S87 KV25 KV26 KV27 KV28 KV29 KV30 S88. -/
import Derived.Test.YtlljaliemldjkaaZKV21
import Derived.Test.YtlljaliemldjkaaZS85
import Derived.Laws.FloatArith
import Derived.Test.YtlljaliemldjkaaZR5
import Derived.Test.YtlljaliemldjkaaZKE17
import Derived.Test.YtlljaliemldjkaaZL1
import Derived.Test.YtlljaliemldjkaaZL10
/- Trellises: Chances, where its numbers are out of bounds (printed by make/kv22.py). -/
namespace Go.Proofs.Ytlljaliemldjkaa
open Go.RowKit Go.Sort

end Go.Proofs.Ytlljaliemldjkaa

/- Trellises: how much a message counts, sign by sign. -/
namespace Go.Proofs.Ytlljaliemldjkaa

/-- Products of numbers. -/
def prN (f : Nat → Nat) : Nat → Nat
  | 0 => 1
  | k + 1 => prN f k * f k
theorem prN_congr {f g : Nat → Nat} : ∀ N, (∀ u, u < N → f u = g u) → prN f N = prN g N
  | 0, _ => rfl
  | N + 1, h => by show prN f N * f N = prN g N * g N; rw [prN_congr N (fun u hu => h u (by omega)), h N (by omega)]
theorem prN_add (f : Nat → Nat) (A : Nat) : ∀ B, prN f (A + B) = prN f A * prN (fun j => f (A + j)) B
  | 0 => by show prN f A = prN f A * 1; rw [Nat.mul_one]
  | B + 1 => by
    show prN f (A + B) * f (A + B) = prN f A * (prN (fun j => f (A + j)) B * f (A + B))
    rw [prN_add f A B, Nat.mul_assoc]
theorem prN_ct (p : Nat → Bool) (a c : Nat) : ∀ N, prN (fun j => if p j = true then a else c) N = a ^ ct p N * c ^ (N - ct p N)
  | 0 => by show 1 = a ^ 0 * c ^ 0; rw [Nat.pow_zero, Nat.pow_zero]
  | N + 1 => by
    have hle := ct_up p N
    show prN (fun j => if p j = true then a else c) N * (if p N = true then a else c) = _
    rw [prN_ct p a c N]
    by_cases h : p N = true
    · have e : ct p (N + 1) = ct p N + 1 := by show ct p N + (if p N = true then 1 else 0) = _; rw [if_pos h]
      rw [if_pos h, e, show N + 1 - (ct p N + 1) = N - ct p N by omega, Nat.pow_succ, Nat.mul_right_comm]
    · have e : ct p (N + 1) = ct p N := by show ct p N + (if p N = true then 1 else 0) = _; rw [if_neg h, Nat.add_zero]
      rw [if_neg h, e, show N + 1 - ct p N = (N - ct p N) + 1 by omega, Nat.pow_succ, Nat.mul_assoc]
/-- How much a sign counts. -/
def spc (z : Nat → Nat) (R : Nat) (y : Nat → Int) (a b : Nat) (m : Nat → Nat) (n i : Nat) : Nat := if ((sgn' z R m n i : Nat) : Int) = y i then b - a else a
theorem cpp_prN {z : Nat → Nat} {R : Nat} {y : Nat → Int} {a b : Nat} {m : Nat → Nat} {n : Nat} : ∀ k, cpp z R y a b m n k = prN (spc z R y a b m n) (R * k)
  | 0 => by rw [Nat.mul_zero]; rfl
  | k + 1 => by
    rw [Nat.mul_add, Nat.mul_one, prN_add, ← cpp_prN k]
    show _ * cpw z R y a b k (snm m n (k + 1)) = _
    congr 1
    unfold cpw trn
    rw [← prN_ct]
    refine prN_congr R fun j hj => ?_
    unfold spc
    have e : sgn' z R m n (R * k + j) = sgb (z j) (snm m n (k + 1)) := by
      unfold sgn'
      rw [Nat.mul_add_mod, Nat.mod_eq_of_lt hj, Nat.mul_add_div (by omega), Nat.div_eq_of_lt hj, Nat.add_zero]
    rw [e, Nat.mul_comm k R]
    by_cases h : ((sgb (z j) (snm m n (k + 1)) : Nat) : Int) = y (R * k + j)
    · rw [if_pos h, if_neg (by simp [h])]
    · rw [if_neg h, if_pos (by simp [h])]
/-- What speaks for a bit. -/
theorem shE_one {z : Nat → Nat} {R : Nat} {y : Nat → Int} {a b n M j : Nat} (hj : j < n) : shE z R y a b n M (1 + j) = smN (fun u => cpt z R y a b n M u * dgs 2 n u j) (2 ^ n) := by
  unfold shE
  refine smN_congr _ fun u _ => ?_
  have e : shm (dgs 2 n u) n (n + M) (1 + j) = dgs 2 n u j := by
    unfold shm
    rw [if_neg (by omega), show 1 + j - 1 = j by omega, if_pos ⟨by omega, hj⟩]
  rw [e]
theorem shE_all {z : Nat → Nat} {R : Nat} {y : Nat → Int} {a b n M : Nat} : shE z R y a b n M 0 = smN (cpt z R y a b n M) (2 ^ n) := by
  unfold shE
  exact smN_congr _ fun u _ => Nat.mul_one _
end Go.Proofs.Ytlljaliemldjkaa

/- Trellises: the reference's Spoken. -/
namespace Go.Proofs.Ytlljaliemldjkaa
open Go.RowKit Go.Sort

end Go.Proofs.Ytlljaliemldjkaa

/- Quotients of numbers as floats: they are numbers. -/
namespace Go.Proofs.Ytlljaliemldjkaa

end Go.Proofs.Ytlljaliemldjkaa

/- Trellises: Odds. -/
namespace Go.Proofs.Ytlljaliemldjkaa
open Go.RowKit Go.Sort

end Go.Proofs.Ytlljaliemldjkaa

/- Trellises: Odds, where there are some. -/
namespace Go.Proofs.Ytlljaliemldjkaa
open Go.RowKit Go.Sort

end Go.Proofs.Ytlljaliemldjkaa

/- Trellises: the law of what is spoken, where there is an error, or too many bits (printed by make/kv27.py). -/
namespace Go.Proofs.Ytlljaliemldjkaa
open Go.RowKit Go.Sort

end Go.Proofs.Ytlljaliemldjkaa

/- Trellises: the law of what is spoken, whole. -/
namespace Go.Proofs.Ytlljaliemldjkaa
open Go.RowKit Go.Sort

end Go.Proofs.Ytlljaliemldjkaa

/- Trellises: the law of what is spoken, put together. -/
namespace Go.Proofs.Ytlljaliemldjkaa
open Go.RowKit Go.Sort

end Go.Proofs.Ytlljaliemldjkaa

/- TrellisSays: its walk, by the ways of its first half (printed by make/kv30.py). -/
namespace Go.Proofs.Ytlljaliemldjkaa
open Go.RowKit Go.Sort

end Go.Proofs.Ytlljaliemldjkaa

/- Trellises: where half of all signs are turned, and where none is. -/
namespace Go.Proofs.Ytlljaliemldjkaa
open Go.RowKit Go.Sort

theorem prN_one {f : Nat → Nat} : ∀ N, (∀ j, j < N → f j = 1) → prN f N = 1
  | 0, _ => rfl
  | N + 1, h => by
    show prN f N * f N = 1
    rw [prN_one N (fun j hj => h j (by omega)), h N (by omega)]
theorem smN_one : ∀ N, smN (fun _ => 1) N = N
  | 0 => rfl
  | N + 1 => by show smN (fun _ => 1) N + 1 = N + 1; rw [smN_one N]
theorem smN_has {f : Nat → Nat} {u0 : Nat} : ∀ N, u0 < N → f u0 ≤ smN f N
  | 0, h => absurd h (by omega)
  | N + 1, h => by
    show f u0 ≤ smN f N + f N
    by_cases e : u0 = N
    · rw [e]; omega
    · have := smN_has (f := f) N (u0 := u0) (by omega); omega
theorem smN_zero {f : Nat → Nat} : ∀ N, smN f N = 0 → ∀ u, u < N → f u = 0
  | 0, _, u, hu => absurd hu (by omega)
  | N + 1, h, u, hu => by
    have h : smN f N + f N = 0 := h
    by_cases e : u = N
    · rw [e]; omega
    · exact smN_zero N (by omega) u (by omega)
theorem smN_nil {f g : Nat → Nat} : ∀ N, (∀ u, u < N → f u = 0) → smN (fun u => f u * g u) N = 0
  | 0, _ => rfl
  | N + 1, h => by
    show smN (fun u => f u * g u) N + f N * g N = 0
    rw [smN_nil N (fun u hu => h u (by omega)), h N (by omega), Nat.zero_mul]
/-- Where just one is 1, and all come to 1. -/
theorem smN_only {f g : Nat → Nat} {u0 : Nat} (h1 : f u0 = 1) : ∀ N, u0 < N → smN f N = 1 → smN (fun u => f u * g u) N = g u0
  | 0, h, _ => absurd h (by omega)
  | N + 1, h, hs => by
    have hs : smN f N + f N = 1 := hs
    show smN (fun u => f u * g u) N + f N * g N = g u0
    by_cases e : u0 = N
    · subst e
      have h0 : smN f u0 = 0 := by omega
      rw [smN_nil u0 (smN_zero u0 h0), h1]
      omega
    · have h2 := smN_has (f := f) N (u0 := u0) (by omega)
      have h3 : f N = 0 := by omega
      rw [smN_only h1 N (by omega) (by omega), h3, Nat.zero_mul, Nat.add_zero]
theorem cpt_half {z : Nat → Nat} {R : Nat} {y : Nat → Int} {n M u : Nat} : cpt z R y 1 2 n M u = 1 := by
  unfold cpt
  rw [cpp_prN]
  refine prN_one _ (fun j _ => ?_)
  unfold spc
  split <;> rfl
theorem half_all {z : Nat → Nat} {R : Nat} {y : Nat → Int} {n M : Nat} : shE z R y 1 2 n M 0 = 2 ^ n := by
  rw [shE_all, smN_congr (g := fun _ => 1) (2 ^ n) (fun u _ => cpt_half), smN_one]
theorem dig_chk : ∀ n, n < 12 → ∀ j, j < n → 2 * smN (fun u => dgs 2 n u j) (2 ^ n) = 2 ^ n := by decide +kernel
theorem half_one {z : Nat → Nat} {R : Nat} {y : Nat → Int} {n M j : Nat} (hn : n < 12) (hj : j < n) : 2 * shE z R y 1 2 n M (1 + j) = 2 ^ n := by
  rw [shE_one hj, smN_congr (g := fun u => dgs 2 n u j) (2 ^ n) (fun u _ => by rw [cpt_half, Nat.one_mul])]
  exact dig_chk n hn j hj
theorem sure_one {z : Nat → Nat} {R : Nat} {n M k : Nat} : cpt z R (fun i => ((sgn' z R (dgs 2 n k) n i : Nat) : Int)) 0 1 n M k = 1 := by
  unfold cpt
  rw [cpp_prN]
  refine prN_one _ (fun j _ => ?_)
  unfold spc
  rw [if_pos rfl]
theorem sure_all {z : Nat → Nat} {R : Nat} {n M k : Nat} (hk : k < 2 ^ n) : 1 ≤ shE z R (fun i => ((sgn' z R (dgs 2 n k) n i : Nat) : Int)) 0 1 n M 0 := by
  rw [shE_all]
  have h := smN_has (f := cpt z R (fun i => ((sgn' z R (dgs 2 n k) n i : Nat) : Int)) 0 1 n M) (2 ^ n) hk
  rw [sure_one] at h
  exact h
theorem sure_bit {z : Nat → Nat} {R : Nat} {n M k j : Nat} (hk : k < 2 ^ n) (hj : j < n) (h1 : shE z R (fun i => ((sgn' z R (dgs 2 n k) n i : Nat) : Int)) 0 1 n M 0 = 1) : shE z R (fun i => ((sgn' z R (dgs 2 n k) n i : Nat) : Int)) 0 1 n M (1 + j) = dgs 2 n k j := by
  rw [shE_all] at h1
  rw [shE_one hj]
  exact smN_only sure_one (2 ^ n) hk h1
theorem lg_of {M R l N : Nat} {y : Nat → Int} (hR : 1 ≤ R) (hl : l = R * (N + M)) (hN : N ≤ 20) (hb : allP isbt y l = true) : lgE M R l y = 0 ∧ lgN M R l y = N := by
  have h1 : l % R = 0 := by rw [hl]; exact Nat.mul_mod_right R _
  have h2 : l / R = N + M := by rw [hl]; exact Nat.mul_div_cancel_left _ (by omega)
  have h3 : lgE M R l y = 0 := by
    unfold lgE
    rw [if_neg (by omega), if_neg (by omega), if_pos hb]
  exact ⟨h3, by unfold lgN; rw [if_pos h3, h2]; omega⟩
end Go.Proofs.Ytlljaliemldjkaa
