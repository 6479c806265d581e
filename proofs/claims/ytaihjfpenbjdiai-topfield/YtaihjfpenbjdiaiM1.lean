/- Plain mathematics of a field's table: sums digit by digit. No Go text here. -/
namespace Go.Proofs.Ytaihjfpenbjdiai

/-- The sum of two numbers' digits, from a unit on, without carrying. -/
def sumFrom (p q a b : Nat) : Nat → Nat → Nat
  | 0, _ => 0
  | k + 1, u => if u < q then (a / u + b / u) % p * u + sumFrom p q a b k (u * p) else 0
def sumD (p q a b : Nat) : Nat := sumFrom p q a b 7 1

theorem sumFrom_lo (p q a b k u : Nat) (h : u < q) : sumFrom p q a b (k + 1) u = (a / u + b / u) % p * u + sumFrom p q a b k (u * p) := by
  rw [sumFrom, if_pos h]
theorem sumFrom_hi (p q a b k u : Nat) (h : ¬ u < q) : sumFrom p q a b k u = 0 := by
  cases k with
  | zero => rfl
  | succ k => rw [sumFrom, if_neg h]
theorem sumFrom_le (p q a b : Nat) (hp : 0 < p) (hp2 : p ≤ 64) (hq : q ≤ 64) : ∀ k u, sumFrom p q a b k u ≤ k * 4096
  | 0, _ => by simp [sumFrom]
  | k + 1, u => by
    rw [sumFrom]
    split
    · have h3 : (a / u + b / u) % p < p := Nat.mod_lt _ hp
      have h4 : (a / u + b / u) % p * u ≤ 64 * 64 := Nat.mul_le_mul (by omega) (by omega)
      have := sumFrom_le p q a b hp hp2 hq k (u * p)
      omega
    · omega
theorem sumD_le (p q a b : Nat) (hp : 0 < p) (hp2 : p ≤ 64) (hq : q ≤ 64) : sumD p q a b ≤ 28672 := sumFrom_le p q a b hp hp2 hq 7 1
/-- The opposite, digit by digit. -/
def negFrom (p q a : Nat) : Nat → Nat → Nat
  | 0, _ => 0
  | k + 1, u => if u < q then (p - a / u % p) % p * u + negFrom p q a k (u * p) else 0
def negD (p q a : Nat) : Nat := negFrom p q a 7 1

theorem negFrom_lo (p q a k u : Nat) (h : u < q) : negFrom p q a (k + 1) u = (p - a / u % p) % p * u + negFrom p q a k (u * p) := by
  rw [negFrom, if_pos h]
theorem negFrom_hi (p q a k u : Nat) (h : ¬ u < q) : negFrom p q a k u = 0 := by
  cases k with
  | zero => rfl
  | succ k => rw [negFrom, if_neg h]
theorem negFrom_le (p q a : Nat) (hp : 0 < p) (hp2 : p ≤ 64) (hq : q ≤ 64) : ∀ k u, negFrom p q a k u ≤ k * 4096
  | 0, _ => by simp [negFrom]
  | k + 1, u => by
    rw [negFrom]
    split
    · have h3 : (p - a / u % p) % p < p := Nat.mod_lt _ hp
      have h4 : (p - a / u % p) % p * u ≤ 64 * 64 := Nat.mul_le_mul (by omega) (by omega)
      have := negFrom_le p q a hp hp2 hq k (u * p)
      omega
    · omega
theorem negD_le (p q a : Nat) (hp : 0 < p) (hp2 : p ≤ 64) (hq : q ≤ 64) : negD p q a ≤ 28672 := negFrom_le p q a hp hp2 hq 7 1

/-- Where the prime is 2, sums are told bit by bit, and each element is its own opposite. -/
def Two (p q : Nat) : Prop := p = 2 → (∀ a b, a < q → b < q → sumD p q a b = a ^^^ b) ∧ ∀ a, a < q → negD p q a = a

/-- A function's value, again and again. -/
def again (st : Nat → Nat) : Nat → Nat → Nat
  | 0, a => a
  | k + 1, a => st (again st k a)
/-- An element times x, by a modulus whose lower part is low. -/
def timesX (p q low a : Nat) : Nat := again (fun r => sumD p q r (negD p q low)) (a * p / q) (a * p % q)

theorem again_lt (st : Nat → Nat) (q : Nat) (h : ∀ a, a < q → st a < q) : ∀ k a, a < q → again st k a < q
  | 0, _, ha => ha
  | k + 1, a, ha => h _ (again_lt st q h k a ha)

theorem timesX_lt {p q low a : Nat} (hsum : ∀ a b, a < q → b < q → sumD p q a b < q) (hneg : ∀ a, a < q → negD p q a < q) (hl : low < q) (hq : 0 < q) : timesX p q low a < q :=
  again_lt _ q (fun r hr => hsum r _ hr (hneg low hl)) _ _ (Nat.mod_lt _ hq)

/-- The powers from 1 on are all but 0, so far. -/
def Full (st : Nat → Nat) (n : Nat) : Prop := ∀ k, k < n → again st k 1 ≠ 0 ∧ ∀ j, j < k → again st j 1 ≠ again st k 1

theorem mul_gt (y p : Nat) (hy : 1 ≤ y) (hp : 2 ≤ p) : y < y * p := by
  have : y * 2 ≤ y * p := Nat.mul_le_mul_left y hp
  omega
end Go.Proofs.Ytaihjfpenbjdiai
