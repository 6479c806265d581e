/- Trellises: rules, what was seen, signs. No Go text here. -/
import Derived.Test.YtlljaliemldjkaaZS78
namespace Go.Proofs.Ytlljaliemldjkaa

/-- How many bits a number below 32 has. -/
def mbl (x : Nat) : Nat := if x = 0 then 0 else if x < 2 then 1 else if x < 4 then 2 else if x < 8 then 3 else if x < 16 then 4 else 5
/-- What some rules look at, together. -/
def orz (z : Nat → Nat) : Nat → Nat
  | 0 => 0
  | k + 1 => orz z k ||| z k
theorem orz_lt {z : Nat → Nat} : ∀ k, (∀ i, i < k → z i < 32) → orz z k < 32
  | 0, _ => by show 0 < 32; omega
  | k + 1, h => Nat.or_lt_two_pow (n := 5) (orz_lt k (fun i hi => h i (by omega))) (h k (by omega))
theorem orz_le {z : Nat → Nat} {i : Nat} : ∀ k, i < k → z i ≤ orz z k
  | 0, h => absurd h (by omega)
  | k + 1, h => by
    show z i ≤ orz z k ||| z k
    by_cases e : i = k
    · rw [e]; exact Nat.right_le_or
    · exact Nat.le_trans (orz_le k (by omega)) Nat.left_le_or
/-- How many bits are remembered. -/
def mmr (z : Nat → Nat) (R : Nat) : Nat := mbl (orz z R) - 1
theorem mbl_le (x : Nat) : mbl x ≤ 5 := by
  unfold mbl
  repeat (first | omega | split)
theorem mmr_le (z : Nat → Nat) (R : Nat) : mmr z R ≤ 4 := by unfold mmr; have := mbl_le (orz z R); omega
theorem mbl_chk : ((List.range 32).all fun a => (List.range 32).all fun b => mbl (a ||| b) - 1 == max (mbl a - 1) (mbl b - 1)) = true := by decide +kernel
theorem mbl_or {a b : Nat} (ha : a < 32) (hb : b < 32) : mbl (a ||| b) - 1 = max (mbl a - 1) (mbl b - 1) := eq_of_beq (List.all_eq_true.1 (List.all_eq_true.1 mbl_chk a (List.mem_range.2 ha)) b (List.mem_range.2 hb))
theorem mbl_pow {x : Nat} (h : x < 32) (h0 : 0 < x) : x < 2 ^ (mbl x - 1 + 1) := by
  have : ((List.range 32).all fun x => Nat.ble x 0 || Nat.blt x (2 ^ (mbl x - 1 + 1))) = true := by decide +kernel
  have h1 := List.all_eq_true.1 this x (List.mem_range.2 h)
  rw [Bool.or_eq_true] at h1
  rcases h1 with h1 | h1
  · have := Nat.le_of_ble_eq_true h1; omega
  · exact Nat.le_of_ble_eq_true h1
/-- The greatest place found so far, of a rule's first places. -/
def mst (r m j : Nat) : Nat := max m (mbl (r % 2 ^ j) - 1)
theorem mst_zero (r m : Nat) : mst r m 0 = m := by unfold mst; rw [Nat.pow_zero, Nat.mod_one]; show max m 0 = m; omega
theorem mst_five {r : Nat} (h : r < 32) (m : Nat) : mst r m 5 = max m (mbl r - 1) := by unfold mst; rw [Nat.mod_eq_of_lt h]
theorem mst_chk : ((List.range 32).all fun r => (List.range 5).all fun m => (List.range 5).all fun j => mst r m (j + 1) == if r / 2 ^ j % 2 = 1 ∧ mst r m j < j then j else mst r m j) = true := by decide +kernel
theorem mst_next {r m j : Nat} (hr : r < 32) (hm : m < 5) (hj : j < 5) : mst r m (j + 1) = if r / 2 ^ j % 2 = 1 ∧ mst r m j < j then j else mst r m j := eq_of_beq (List.all_eq_true.1 (List.all_eq_true.1 (List.all_eq_true.1 mst_chk r (List.mem_range.2 hr)) m (List.mem_range.2 hm)) j (List.mem_range.2 hj))
/-- A sign. -/
def sgb (r x : Nat) : Nat := bcn 5 (r &&& x) % 2
theorem sgb_le (r x : Nat) : sgb r x ≤ 1 := by unfold sgb; omega
/-- What was seen. -/
def snm (m : Nat → Nat) (n : Nat) : Nat → Nat
  | 0 => 0
  | k + 1 => 2 * snm m n k + if k < n then m k else 0
theorem snm_lt {m : Nat → Nat} {n : Nat} (hm : ∀ i, i < n → m i ≤ 1) : ∀ k, snm m n k < 2 ^ k
  | 0 => by show 0 < 1; omega
  | k + 1 => by
    have := snm_lt hm k
    show 2 * snm m n k + (if k < n then m k else 0) < 2 ^ (k + 1)
    rw [Nat.pow_succ]
    split
    · rename_i h; have := hm k h; omega
    · omega
theorem snm_bit {m : Nat → Nat} {n : Nat} (hm : ∀ i, i < n → m i ≤ 1) : ∀ k j, (snm m n k).testBit j = (decide (j < k) && (decide (k - 1 - j < n) && decide (m (k - 1 - j) = 1)))
  | 0, j => by show (0 : Nat).testBit j = _; rw [Nat.zero_testBit, decide_eq_false (by omega), Bool.false_and]
  | k + 1, 0 => by
    show (2 * snm m n k + if k < n then m k else 0).testBit 0 = _
    rw [Nat.testBit_zero, decide_eq_true (show 0 < k + 1 by omega), Bool.true_and, show k + 1 - 1 - 0 = k by omega]
    by_cases h : k < n
    · have := hm k h
      rw [if_pos h, decide_eq_true h, Bool.true_and]
      refine decide_eq_decide.2 ?_
      omega
    · rw [if_neg h, decide_eq_false h, Bool.false_and]
      refine decide_eq_false ?_
      omega
  | k + 1, j + 1 => by
    show (2 * snm m n k + if k < n then m k else 0).testBit (j + 1) = _
    rw [Nat.testBit_succ]
    have e : (2 * snm m n k + if k < n then m k else 0) / 2 = snm m n k := by
      split
      · rename_i h; have := hm k h; omega
      · omega
    rw [e, snm_bit hm k j, show k + 1 - 1 - (j + 1) = k - 1 - j by omega]
    by_cases h : j < k
    · rw [decide_eq_true h, decide_eq_true (show j + 1 < k + 1 by omega)]
    · rw [decide_eq_false h, decide_eq_false (show ¬ j + 1 < k + 1 by omega)]
/-- The reference's sum. -/
def ssj (r : Nat) (m : Nat → Nat) (n i : Nat) : Nat → Nat
  | 0 => 0
  | j + 1 => ssj r m n i j + if r / 2 ^ j % 2 = 1 ∧ j ≤ i ∧ i - j < n then m (i - j) else 0
theorem ssj_ct {r : Nat} {m : Nat → Nat} {n i : Nat} (hm : ∀ i, i < n → m i ≤ 1) : ∀ j, ssj r m n i j = ct (fun j => (r &&& snm m n (i + 1)).testBit j) j
  | 0 => rfl
  | j + 1 => by
    show ssj r m n i j + (if r / 2 ^ j % 2 = 1 ∧ j ≤ i ∧ i - j < n then m (i - j) else 0) = ct _ j + (if (r &&& snm m n (i + 1)).testBit j = true then 1 else 0)
    rw [ssj_ct hm j, Nat.testBit_and, snm_bit hm, Nat.testBit_eq_decide_div_mod_eq, show i + 1 - 1 - j = i - j by omega]
    by_cases h1 : r / 2 ^ j % 2 = 1
    · by_cases h2 : j ≤ i
      · by_cases h3 : i - j < n
        · have := hm (i - j) h3
          rw [if_pos ⟨h1, h2, h3⟩, decide_eq_true h1, decide_eq_true (show j < i + 1 by omega), decide_eq_true h3, Bool.true_and, Bool.true_and, Bool.true_and]
          by_cases h4 : m (i - j) = 1
          · rw [if_pos (decide_eq_true h4), h4]
          · rw [if_neg (by rw [decide_eq_false h4]; decide)]; omega
        · rw [if_neg (fun h => h3 h.2.2), decide_eq_false h3, if_neg (by simp)]
      · rw [if_neg (fun h => h2 h.2.1), decide_eq_false (show ¬ j < i + 1 by omega), if_neg (by simp)]
    · rw [if_neg (fun h => h1 h.1), decide_eq_false h1, if_neg (by simp)]
theorem ssj_is {r : Nat} {m : Nat → Nat} {n i : Nat} (hm : ∀ i, i < n → m i ≤ 1) : ssj r m n i 5 % 2 = sgb r (snm m n (i + 1)) := by
  unfold sgb; rw [bcn_ct, ssj_ct hm]
theorem ssj_le {r : Nat} {m : Nat → Nat} {n i : Nat} (hm : ∀ i, i < n → m i ≤ 1) : ∀ j, ssj r m n i j ≤ j
  | 0 => Nat.le_refl 0
  | j + 1 => by
    show ssj r m n i j + _ ≤ j + 1
    have := ssj_le (r := r) (i := i) hm j
    split
    · rename_i h; have := hm _ h.2.2; omega
    · omega
/-- A rule looks at what is remembered and the newest alone. -/
theorem sgb_low {r M : Nat} (hr : r < 2 ^ (M + 1)) (x : Nat) : sgb r (x % 2 ^ (M + 1)) = sgb r x := by
  unfold sgb
  have : r &&& x % 2 ^ (M + 1) = r &&& x := Nat.eq_of_testBit_eq fun i => by
    rw [Nat.testBit_and, Nat.testBit_and, Nat.testBit_mod_two_pow]
    by_cases h : i < M + 1
    · rw [decide_eq_true h, Bool.true_and]
    · rw [Nat.testBit_lt_two_pow (Nat.lt_of_lt_of_le hr (Nat.pow_le_pow_right (by omega) (by omega)))]; simp
  rw [this]
/-- All signs of a message, by their numbers. -/
def sgn' (z : Nat → Nat) (R : Nat) (m : Nat → Nat) (n i : Nat) : Nat := sgb (z (i % R)) (snm m n (i / R + 1))
end Go.Proofs.Ytlljaliemldjkaa
