/- Plain mathematics: how many sets there are; Krawtchouk's numbers. No Go text here. -/
import Derived.Test.YtnjbnamcedfjaaaZM1
namespace Go.Proofs.Ytnjbnamcedfjaaa

/-- How many sets of k there are of n. -/
def chs : Nat → Nat → Nat
  | _, 0 => 1
  | 0, _ + 1 => 0
  | n + 1, k + 1 => chs n k + chs n (k + 1)
theorem chs_zero (n : Nat) : chs n 0 = 1 := by cases n <;> rfl
theorem chs_over : ∀ n k, n < k → chs n k = 0
  | _, 0, h => by omega
  | 0, _ + 1, _ => rfl
  | n + 1, k + 1, h => by
    show chs n k + chs n (k + 1) = 0
    rw [chs_over n k (by omega), chs_over n (k + 1) (by omega)]
/-- One more in the set. -/
theorem chs_step : ∀ n k, (k + 1) * chs n (k + 1) = (n - k) * chs n k
  | 0, k => by
    rw [show chs 0 (k + 1) = 0 from rfl, Nat.zero_sub]; omega
  | n + 1, 0 => by
    have h := chs_step n 0
    rw [chs_zero] at h ⊢
    show (0 + 1) * (chs n 0 + chs n (0 + 1)) = _
    rw [chs_zero]
    omega
  | n + 1, k + 1 => by
    have h1 := chs_step n k
    have h2 := chs_step n (k + 1)
    show (k + 1 + 1) * (chs n (k + 1) + chs n (k + 1 + 1)) = (n + 1 - (k + 1)) * (chs n k + chs n (k + 1))
    by_cases e : k + 1 ≤ n
    · rw [Nat.mul_add, h2, show n + 1 - (k + 1) = n - k by omega, Nat.mul_add, ← h1, ← Nat.add_mul, ← Nat.add_mul, show k + 1 + 1 + (n - (k + 1)) = n + 1 by omega, show k + 1 + (n - k) = n + 1 by omega]
    · rw [chs_over n (k + 1) (by omega), chs_over n (k + 1 + 1) (by omega), show n + 1 - (k + 1) = 0 by omega]
      omega
theorem chs_pw (b : Nat) : ∀ n k, b ^ k * chs n k ≤ (b + 1) ^ n
  | n, 0 => by
    rw [chs_zero, Nat.pow_zero]
    exact Nat.one_le_pow _ _ (by omega)
  | 0, k + 1 => by rw [show chs 0 (k + 1) = 0 from rfl]; exact Nat.zero_le _
  | n + 1, k + 1 => by
    have h1 := chs_pw b n k
    have h2 := chs_pw b n (k + 1)
    show b ^ (k + 1) * (chs n k + chs n (k + 1)) ≤ _
    have e1 : b ^ (k + 1) * chs n k = b * (b ^ k * chs n k) := by rw [Nat.pow_succ, Nat.mul_comm (b ^ k) b, Nat.mul_assoc]
    have h3 : b * (b ^ k * chs n k) ≤ b * (b + 1) ^ n := Nat.mul_le_mul_left _ h1
    have e2 : (b + 1) ^ (n + 1) = b * (b + 1) ^ n + (b + 1) ^ n := by rw [Nat.pow_succ, Nat.mul_add, Nat.mul_one, Nat.mul_comm ((b + 1) ^ n) b]
    rw [Nat.mul_add, e1, e2]
    omega
theorem chs_le (n k : Nat) : chs n k ≤ 2 ^ n := by
  have h := chs_pw 1 n k
  rw [Nat.one_pow, Nat.one_mul] at h
  exact h

/-- The coefficients of a product of (1 + c z). -/
def kc (c : Nat → Int) : Nat → Nat → Int
  | 0, 0 => 1
  | 0, _ + 1 => 0
  | i + 1, 0 => kc c i 0
  | i + 1, k + 1 => kc c i (k + 1) + c i * kc c i k
theorem kc_zero (c : Nat → Int) : ∀ i, kc c i 0 = 1
  | 0 => rfl
  | i + 1 => kc_zero c i
theorem kc_abs {c : Nat → Int} {q : Nat} (hq : 1 ≤ q) (hc : ∀ i, (c i).natAbs ≤ q - 1) : ∀ i k, (kc c i k).natAbs ≤ q ^ i
  | 0, 0 => by show (1 : Int).natAbs ≤ _; simp
  | 0, _ + 1 => by show (0 : Int).natAbs ≤ _; simp
  | i + 1, 0 => by
    rw [kc_zero]
    exact Nat.one_le_pow _ _ (by omega)
  | i + 1, k + 1 => by
    have h1 := kc_abs hq hc i (k + 1)
    have h2 := kc_abs hq hc i k
    show (kc c i (k + 1) + c i * kc c i k).natAbs ≤ _
    have h3 : (c i * kc c i k).natAbs ≤ (q - 1) * q ^ i := by rw [Int.natAbs_mul]; exact Nat.mul_le_mul (hc i) h2
    have h4 := Int.natAbs_add_le (kc c i (k + 1)) (c i * kc c i k)
    have h5 : q ^ (i + 1) = (q - 1) * q ^ i + q ^ i := by
      rw [Nat.pow_succ, Nat.mul_comm, ← Nat.succ_mul]
      congr 1
      omega
    omega
/-- Of a product of two, the first j terms. -/
def cv (A B : Nat → Int) (k : Nat) : Nat → Int
  | 0 => 0
  | j + 1 => cv A B k j + A j * B (k - j)
theorem cv_congr {A A' B B' : Nat → Int} {k : Nat} : ∀ j, (∀ i, i < j → A i = A' i ∧ B (k - i) = B' (k - i)) → cv A B k j = cv A' B' k j
  | 0, _ => rfl
  | j + 1, h => by
    show cv A B k j + A j * B (k - j) = cv A' B' k j + A' j * B' (k - j)
    rw [cv_congr j (fun i hi => h i (by omega)), (h j (by omega)).1, (h j (by omega)).2]
/-- b^l times how many sets of l there are of m. -/
def bl (b : Int) (m l : Nat) : Int := b ^ l * (chs m l : Nat)
theorem bl_zero (b : Int) (m : Nat) : bl b m 0 = 1 := by unfold bl; rw [chs_zero]; simp
theorem bl_succ (b : Int) (m l : Nat) : bl b (m + 1) (l + 1) = bl b m (l + 1) + b * bl b m l := by
  unfold bl
  rw [show chs (m + 1) (l + 1) = chs m l + chs m (l + 1) from rfl, Int.natCast_add, Int.mul_add, Int.pow_succ]
  have : b ^ l * b * (chs m l : Nat) = b * (b ^ l * (chs m l : Nat)) := by rw [Int.mul_comm (b ^ l) b, Int.mul_assoc]
  rw [this, Int.add_comm]
theorem cv_step (A : Nat → Int) (b : Int) (m k : Nat) : ∀ j, j ≤ k + 1 → cv A (bl b (m + 1)) (k + 1) j = cv A (bl b m) (k + 1) j + b * cv A (bl b m) k j
  | 0, _ => by show (0 : Int) = 0 + b * 0; simp
  | j + 1, h => by
    show cv A (bl b (m + 1)) (k + 1) j + A j * bl b (m + 1) (k + 1 - j) = cv A (bl b m) (k + 1) j + A j * bl b m (k + 1 - j) + b * (cv A (bl b m) k j + A j * bl b m (k - j))
    rw [cv_step A b m k j (by omega), show k + 1 - j = (k - j) + 1 by omega, bl_succ, Int.mul_add, Int.mul_add, ← Int.mul_assoc (A j) b, Int.mul_comm (A j) b, Int.mul_assoc b (A j)]
    omega
/-- The coefficients of (1 - z)^x (1 + b z)^(n - x). -/
def kwc (b : Int) (x : Nat) : Nat → Int := fun i => if i < x then -1 else b
theorem kc_lo (b : Int) (x : Nat) : ∀ i k, i ≤ x → kc (kwc b x) i k = (-1) ^ k * (chs i k : Nat)
  | 0, 0, _ => rfl
  | 0, k + 1, _ => by
    show (0 : Int) = (-1) ^ (k + 1) * ((0 : Nat) : Int)
    simp
  | i + 1, 0, h => by
    rw [kc_zero, chs_zero]; simp
  | i + 1, k + 1, h => by
    show kc (kwc b x) i (k + 1) + kwc b x i * kc (kwc b x) i k = (-1) ^ (k + 1) * ((chs i k + chs i (k + 1) : Nat) : Int)
    rw [kc_lo b x i (k + 1) (by omega), kc_lo b x i k (by omega), show kwc b x i = -1 from if_pos (by omega), Int.natCast_add, Int.mul_add, Int.pow_succ]
    have : (-1 : Int) * ((-1) ^ k * (chs i k : Nat)) = (-1) ^ k * -1 * (chs i k : Nat) := by rw [← Int.mul_assoc, Int.mul_comm (-1 : Int)]
    rw [this]
    omega
theorem kc_hi (b : Int) (x : Nat) : ∀ m k, kc (kwc b x) (x + m) k = cv (kc (kwc b x) x) (bl b m) k (k + 1)
  | 0, k => by
    have h : ∀ j, j ≤ k → cv (kc (kwc b x) x) (bl b 0) k j = 0 := fun j => by
      induction j with
      | zero => intro _; rfl
      | succ j ih =>
        intro hj
        show cv (kc (kwc b x) x) (bl b 0) k j + kc (kwc b x) x j * bl b 0 (k - j) = 0
        rw [ih (by omega), show k - j = (k - j - 1) + 1 by omega]
        have : bl b 0 (k - j - 1 + 1) = 0 := by unfold bl; rw [show chs 0 (k - j - 1 + 1) = 0 from rfl]; simp
        rw [this]; simp
    show kc (kwc b x) x k = cv (kc (kwc b x) x) (bl b 0) k k + kc (kwc b x) x k * bl b 0 (k - k)
    rw [h k (Nat.le_refl _), Nat.sub_self, bl_zero]; simp
  | m + 1, 0 => by
    show kc (kwc b x) (x + m) 0 = cv (kc (kwc b x) x) (bl b (m + 1)) 0 0 + kc (kwc b x) x 0 * bl b (m + 1) (0 - 0)
    rw [kc_zero, kc_zero, bl_zero]
    show (1 : Int) = 0 + 1 * 1
    rfl
  | m + 1, k + 1 => by
    show kc (kwc b x) (x + m) (k + 1) + kwc b x (x + m) * kc (kwc b x) (x + m) k = cv (kc (kwc b x) x) (bl b (m + 1)) (k + 1) (k + 1) + kc (kwc b x) x (k + 1) * bl b (m + 1) (k + 1 - (k + 1))
    rw [kc_hi b x m (k + 1), kc_hi b x m k, show kwc b x (x + m) = b from if_neg (by omega), cv_step _ _ _ _ _ (Nat.le_refl _), Nat.sub_self, bl_zero]
    show cv (kc (kwc b x) x) (bl b m) (k + 1) (k + 1) + kc (kwc b x) x (k + 1) * bl b m (k + 1 - (k + 1)) + b * cv (kc (kwc b x) x) (bl b m) k (k + 1) = _
    rw [Nat.sub_self, bl_zero]
    omega
/-- Krawtchouk's number, as a sum. -/
def krw (q n k x : Nat) : Nat → Int := cv (fun j => (-1) ^ j * (chs x j : Nat)) (bl ((q : Int) - 1) (n - x)) k
theorem krw_is (q n k x : Nat) (hx : x ≤ n) : krw q n k x (k + 1) = kc (kwc ((q : Int) - 1) x) n k := by
  have h := kc_hi ((q : Int) - 1) x (n - x) k
  rw [show x + (n - x) = n by omega] at h
  rw [h]
  exact cv_congr _ (fun i _ => ⟨(kc_lo _ x x i (Nat.le_refl _)).symm, rfl⟩)
end Go.Proofs.Ytnjbnamcedfjaaa
