/- Texts of ours, one behind the other: KV22 KV23. -/
import Derived.Test.YtlljaliemldjkaaZKV21
/- Trellises: Chances, where its numbers are out of bounds (printed by make/kv22.py). -/
namespace Go.Proofs.Ytlljaliemldjkaa
open Go.RowKit Go.Sort

set_option maxHeartbeats 8000000 in
set_option maxRecDepth 100000 in
theorem tch_lim {ao so : Option Addr} {R ca l sc N : Nat} {a b : Int} {w : World} (hL : ∀ wx, Below w.heap.size w wx → Calls Try.prog 13 #[.slice ao R ca, .slice so l sc] wx fun e w' => e = .returned (.tuple #[.int .i64 (N : Nat), .int .i64 0]) ∧ ∃ d, w' = wx.drewN d) (hbad : b < 1 ∨ 4 < b ∨ a < 0 ∨ b < a ∨ 24 < l) :
    Calls Try.prog 24 #[.slice ao R ca, .slice so l sc, .int .i64 a, .int .i64 b] w fun e w' => e = .returned (.tuple #[.slice none 0 0, .int .i64 0, .int .i64 4]) ∧ Below w.heap.size w w' := by
  obtain ⟨w4, hw4, hb4, k1, k2, k3, k4⟩ := four_new ao so R ca l sc a b w
  have HL : Hid (Calls Try.prog 13 #[.slice ao R ca, .slice so l sc] w4 fun e w' => e = .returned (.tuple #[.int .i64 (N : Nat), .int .i64 0]) ∧ ∃ d, w' = w4.drewN d) := hL w4 hb4
  have H4 : Hid (Below w.heap.size w w4 ∧ w4.cell? ⟨w.heap.size + 1, 0, none⟩ = some (.slice so l sc) ∧ w4.cell? ⟨w.heap.size + 1 + 1, 0, none⟩ = some (.int .i64 a) ∧ w4.cell? ⟨w.heap.size + 1 + 1 + 1, 0, none⟩ = some (.int .i64 b)) := ⟨hb4, k2, k3, k4⟩
  clear hL hb4 k1 k2 k3 k4
  go_enter Try.func24, Try.ntmps24
  go_wp2_with fail
  rw [← hw4]
  clear hw4
  refine HL.out.mono ?_
  rintro e w5 ⟨rfl, d, hw5⟩
  have H5 : Hid (Below w.heap.size w w5) := by rw [hw5]; exact below_drewN2 H4.out.1 d
  have k2 : w5.cell? ⟨w.heap.size + 1, 0, none⟩ = some (.slice so l sc) := by rw [hw5]; exact H4.out.2.1
  have k3 : w5.cell? ⟨w.heap.size + 1 + 1, 0, none⟩ = some (.int .i64 a) := by rw [hw5]; exact H4.out.2.2.1
  have k4 : w5.cell? ⟨w.heap.size + 1 + 1 + 1, 0, none⟩ = some (.int .i64 b) := by rw [hw5]; exact H4.out.2.2.2
  clear hw5 HL H4
  by_cases h0 : b < 1
  · have z0 : b < 1 := by omega
    clear hbad
    go_wp2
    refine bodyPost_ret (v := .tuple #[.slice none 0 0, .int .i64 0, .int .i64 4]) (by simp [results, Try.results24, go_sem]) rfl ?_
    exact ⟨rfl, H5.out⟩
  · have z0 : ¬ b < 1 := by omega
    by_cases h1 : 4 < b
    · have z1 : 4 < b := by omega
      clear hbad
      go_wp2
      refine bodyPost_ret (v := .tuple #[.slice none 0 0, .int .i64 0, .int .i64 4]) (by simp [results, Try.results24, go_sem]) rfl ?_
      exact ⟨rfl, H5.out⟩
    · have z1 : ¬ 4 < b := by omega
      by_cases h2 : a < 0
      · have z2 : a < 0 := by omega
        clear hbad
        go_wp2
        refine bodyPost_ret (v := .tuple #[.slice none 0 0, .int .i64 0, .int .i64 4]) (by simp [results, Try.results24, go_sem]) rfl ?_
        exact ⟨rfl, H5.out⟩
      · have z2 : ¬ a < 0 := by omega
        by_cases h3 : b < a
        · have z3 : b < a := by omega
          clear hbad
          go_wp2
          refine bodyPost_ret (v := .tuple #[.slice none 0 0, .int .i64 0, .int .i64 4]) (by simp [results, Try.results24, go_sem]) rfl ?_
          exact ⟨rfl, H5.out⟩
        · have z3 : ¬ b < a := by omega
          by_cases h4 : 24 < l
          · have z4 : (24 : Int) < (l : Int) := by omega
            clear hbad
            go_wp2
            refine bodyPost_ret (v := .tuple #[.slice none 0 0, .int .i64 0, .int .i64 4]) (by simp [results, Try.results24, go_sem]) rfl ?_
            exact ⟨rfl, H5.out⟩
          · have z4 : ¬ (24 : Int) < (l : Int) := by omega
            exact absurd hbad (by omega)
end Go.Proofs.Ytlljaliemldjkaa

/- Trellises: how much a message counts, sign by sign. -/
namespace Go.Proofs.Ytlljaliemldjkaa

/-- Products of numbers. -/
def prN (f : Nat → Nat) : Nat → Nat
  | 0 => 1
  | k + 1 => prN f k * f k
theorem prN_congr {f g : Nat → Nat} : ∀ N, (∀ u, u < N → f u = g u) → prN f N = prN g N
  | 0, _ => rfl
  | N + 1, h => by show prN f N * f N = prN g N * g N; rw [prN_congr N (fun u hu => h u (by omega)), h N (by omega)]
theorem prN_add (f : Nat → Nat) (A : Nat) : ∀ B, prN f (A + B) = prN f A * prN (fun j => f (A + j)) B
  | 0 => by show prN f A = prN f A * 1; rw [Nat.mul_one]
  | B + 1 => by
    show prN f (A + B) * f (A + B) = prN f A * (prN (fun j => f (A + j)) B * f (A + B))
    rw [prN_add f A B, Nat.mul_assoc]
theorem prN_ct (p : Nat → Bool) (a c : Nat) : ∀ N, prN (fun j => if p j = true then a else c) N = a ^ ct p N * c ^ (N - ct p N)
  | 0 => by show 1 = a ^ 0 * c ^ 0; rw [Nat.pow_zero, Nat.pow_zero]
  | N + 1 => by
    have hle := ct_up p N
    show prN (fun j => if p j = true then a else c) N * (if p N = true then a else c) = _
    rw [prN_ct p a c N]
    by_cases h : p N = true
    · have e : ct p (N + 1) = ct p N + 1 := by show ct p N + (if p N = true then 1 else 0) = _; rw [if_pos h]
      rw [if_pos h, e, show N + 1 - (ct p N + 1) = N - ct p N by omega, Nat.pow_succ, Nat.mul_right_comm]
    · have e : ct p (N + 1) = ct p N := by show ct p N + (if p N = true then 1 else 0) = _; rw [if_neg h, Nat.add_zero]
      rw [if_neg h, e, show N + 1 - ct p N = (N - ct p N) + 1 by omega, Nat.pow_succ, Nat.mul_assoc]
theorem prN_le {f : Nat → Nat} (h : ∀ j, f j ≤ 4) : ∀ N, prN f N ≤ 4 ^ N
  | 0 => Nat.le_refl _
  | N + 1 => by rw [Nat.pow_succ]; exact Nat.mul_le_mul (prN_le h N) (h N)
/-- How much a sign counts. -/
def spc (z : Nat → Nat) (R : Nat) (y : Nat → Int) (a b : Nat) (m : Nat → Nat) (n i : Nat) : Nat := if ((sgn' z R m n i : Nat) : Int) = y i then b - a else a
theorem spc_le {z : Nat → Nat} {R : Nat} {y : Nat → Int} {a b : Nat} {m : Nat → Nat} {n : Nat} (hab : a ≤ b) (hb : b ≤ 4) (i : Nat) : spc z R y a b m n i ≤ 4 := by unfold spc; split <;> omega
theorem cpp_prN {z : Nat → Nat} {R : Nat} {y : Nat → Int} {a b : Nat} {m : Nat → Nat} {n : Nat} : ∀ k, cpp z R y a b m n k = prN (spc z R y a b m n) (R * k)
  | 0 => by rw [Nat.mul_zero]; rfl
  | k + 1 => by
    rw [Nat.mul_add, Nat.mul_one, prN_add, ← cpp_prN k]
    show _ * cpw z R y a b k (snm m n (k + 1)) = _
    congr 1
    unfold cpw trn
    rw [← prN_ct]
    refine prN_congr R fun j hj => ?_
    unfold spc
    have e : sgn' z R m n (R * k + j) = sgb (z j) (snm m n (k + 1)) := by
      unfold sgn'
      rw [Nat.mul_add_mod, Nat.mod_eq_of_lt hj, Nat.mul_add_div (by omega), Nat.div_eq_of_lt hj, Nat.add_zero]
    rw [e, Nat.mul_comm k R]
    by_cases h : ((sgb (z j) (snm m n (k + 1)) : Nat) : Int) = y (R * k + j)
    · rw [if_pos h, if_neg (by simp [h])]
    · rw [if_neg h, if_pos (by simp [h])]
theorem smN_le {f : Nat → Nat} {C : Nat} : ∀ N, (∀ u, u < N → f u ≤ C) → smN f N ≤ N * C
  | 0, _ => Nat.zero_le _
  | N + 1, h => by
    have h1 := smN_le N (fun u hu => h u (by omega))
    have h2 := h N (by omega)
    show smN f N + f N ≤ _
    rw [Nat.add_mul, Nat.one_mul]
    omega
/-- What speaks for a bit. -/
theorem shE_one {z : Nat → Nat} {R : Nat} {y : Nat → Int} {a b n M j : Nat} (hj : j < n) : shE z R y a b n M (1 + j) = smN (fun u => cpt z R y a b n M u * dgs 2 n u j) (2 ^ n) := by
  unfold shE
  refine smN_congr _ fun u _ => ?_
  have e : shm (dgs 2 n u) n (n + M) (1 + j) = dgs 2 n u j := by
    unfold shm
    rw [if_neg (by omega), show 1 + j - 1 = j by omega, if_pos ⟨by omega, hj⟩]
  rw [e]
theorem shE_all {z : Nat → Nat} {R : Nat} {y : Nat → Int} {a b n M : Nat} : shE z R y a b n M 0 = smN (cpt z R y a b n M) (2 ^ n) := by
  unfold shE
  exact smN_congr _ fun u _ => Nat.mul_one _
end Go.Proofs.Ytlljaliemldjkaa
