/- How many bits of a number are 1, counted side by side (plain mathematics: what math/bits.OnesCount64 does). -/
import Derived.Test.YtlljaliemldjkaaZA1
namespace Go.Proofs.Ytlljaliemldjkaa

/-- How many of the first f bits are 1. -/
def bcn : Nat → Nat → Nat
  | 0, _ => 0
  | f + 1, s => s % 2 + bcn f (s / 2)
theorem bcn_le : ∀ f s, bcn f s ≤ f
  | 0, _ => Nat.le_refl _
  | f + 1, s => by
    show s % 2 + bcn f (s / 2) ≤ f + 1
    have := bcn_le f (s / 2)
    omega
theorem bcn_add : ∀ a b s, bcn (a + b) s = bcn a s + bcn b (s / 2 ^ a)
  | 0, b, s => by rw [Nat.zero_add, Nat.pow_zero, Nat.div_one]; show _ = 0 + _; rw [Nat.zero_add]
  | a + 1, b, s => by
    rw [show a + 1 + b = a + b + 1 by omega]
    show s % 2 + bcn (a + b) (s / 2) = s % 2 + bcn a (s / 2) + bcn b (s / 2 ^ (a + 1))
    rw [bcn_add a b (s / 2), Nat.div_div_eq_div_mul, show 2 ^ (a + 1) = 2 * 2 ^ a by rw [Nat.pow_succ, Nat.mul_comm]]
    omega
theorem bcn_mod : ∀ a s, bcn a (s % 2 ^ a) = bcn a s
  | 0, s => rfl
  | a + 1, s => by
    show s % 2 ^ (a + 1) % 2 + bcn a (s % 2 ^ (a + 1) / 2) = s % 2 + bcn a (s / 2)
    have e1 : s % 2 ^ (a + 1) % 2 = s % 2 := Nat.mod_mod_of_dvd _ ⟨2 ^ a, by rw [Nat.pow_succ, Nat.mul_comm]⟩
    have e2 : s % 2 ^ (a + 1) / 2 = s / 2 % 2 ^ a := by
      rw [show 2 ^ (a + 1) = 2 * 2 ^ a by rw [Nat.pow_succ, Nat.mul_comm], Nat.mod_mul_right_div_self]
    rw [e1, e2, bcn_mod a (s / 2)]
/-- A mask of k bytes. -/
def msk (m : Nat) : Nat → Nat
  | 0 => 0
  | k + 1 => m + 256 * msk m k
theorem and_byte {p m P M : Nat} (hp : p < 256) (hm : m < 256) : (p + 256 * P) &&& (m + 256 * M) = (p &&& m) + 256 * (P &&& M) := by
  have hpm : p &&& m < 256 := Nat.lt_of_le_of_lt Nat.and_le_left hp
  apply Nat.eq_of_testBit_eq
  intro i
  rw [Nat.testBit_and, Nat.add_comm p, Nat.add_comm m, Nat.add_comm (p &&& m), show 256 = 2 ^ 8 from rfl, Nat.testBit_two_pow_mul_add _ (by exact hp), Nat.testBit_two_pow_mul_add _ (by exact hm), Nat.testBit_two_pow_mul_add _ (by exact hpm)]
  by_cases c : i < 8
  · simp [c, Nat.testBit_and]
  · simp [c, Nat.testBit_and]
/-- The first sum, of k bytes. -/
def sw1 (k x : Nat) : Nat := (x / 2 &&& msk 0x55 k) + (x &&& msk 0x55 k)
def sw2 (k x : Nat) : Nat := (x / 4 &&& msk 0x33 k) + (x &&& msk 0x33 k)
def sw3 (k x : Nat) : Nat := (x / 16 + x) &&& msk 0x0f k
/-- One byte's. -/
def by1 (a : Nat) : Nat := (a / 2 &&& 0x55) + (a &&& 0x55)
def by2 (a : Nat) : Nat := (a / 4 &&& 0x33) + (a &&& 0x33)
theorem sh1_byte : ((List.range 256).all fun a => (List.range 2).all fun b => (a / 2 + 128 * b) &&& 0x55 == a / 2 &&& 0x55) = true := by decide +kernel
theorem sh2_byte : ((List.range 256).all fun a => (List.range 4).all fun b => (a / 4 + 64 * b) &&& 0x33 == a / 4 &&& 0x33) = true := by decide +kernel
theorem sw1_byte {k a b : Nat} (ha : a < 256) : sw1 (k + 1) (a + 256 * b) = by1 a + 256 * sw1 k b := by
  unfold sw1 by1
  have e : (a + 256 * b) / 2 = (a / 2 + 128 * (b % 2)) + 256 * (b / 2) := by omega
  show ((a + 256 * b) / 2 &&& (0x55 + 256 * msk 0x55 k)) + ((a + 256 * b) &&& (0x55 + 256 * msk 0x55 k)) = _
  rw [e, and_byte (by omega) (by omega), and_byte ha (by omega)]
  have h := List.all_eq_true.1 (List.all_eq_true.1 sh1_byte a (List.mem_range.2 ha)) (b % 2) (List.mem_range.2 (Nat.mod_lt _ (by omega)))
  rw [beq_iff_eq.1 h]
  omega
theorem sw2_byte {k a b : Nat} (ha : a < 256) : sw2 (k + 1) (a + 256 * b) = by2 a + 256 * sw2 k b := by
  unfold sw2 by2
  have e : (a + 256 * b) / 4 = (a / 4 + 64 * (b % 4)) + 256 * (b / 4) := by omega
  show ((a + 256 * b) / 4 &&& (0x33 + 256 * msk 0x33 k)) + ((a + 256 * b) &&& (0x33 + 256 * msk 0x33 k)) = _
  rw [e, and_byte (by omega) (by omega), and_byte ha (by omega)]
  have h := List.all_eq_true.1 (List.all_eq_true.1 sh2_byte a (List.mem_range.2 ha)) (b % 4) (List.mem_range.2 (Nat.mod_lt _ (by omega)))
  rw [beq_iff_eq.1 h]
  omega
theorem by_chk : ((List.range 256).all fun a => decide (by1 a < 256) && decide (by2 (by1 a) ≤ 68) && decide (by2 (by1 a) % 16 ≤ 4) && ((by2 (by1 a) / 16 + by2 (by1 a)) % 16 == bcn 8 a)) = true := by decide +kernel
theorem by_of {a : Nat} (ha : a < 256) : by1 a < 256 ∧ by2 (by1 a) ≤ 68 ∧ by2 (by1 a) % 16 ≤ 4 ∧ (by2 (by1 a) / 16 + by2 (by1 a)) % 16 = bcn 8 a := by
  have h := List.all_eq_true.1 by_chk a (List.mem_range.2 ha)
  simp only [Bool.and_eq_true, decide_eq_true_eq, beq_iff_eq] at h
  exact ⟨h.1.1.1, h.1.1.2, h.1.2, h.2⟩
theorem sw_low : ∀ k b, sw2 k (sw1 k b) % 16 ≤ 4
  | 0, b => by unfold sw2 sw1 msk; simp
  | k + 1, b => by
    have ha : b % 256 < 256 := Nat.mod_lt _ (by omega)
    have e : b = b % 256 + 256 * (b / 256) := by omega
    obtain ⟨h1, _, h3, _⟩ := by_of ha
    rw [e, sw1_byte ha, sw2_byte h1]
    omega
theorem and_fifteen (x : Nat) : x &&& 15 = x % 16 := Nat.and_two_pow_sub_one_eq_mod x 4
/-- The bytes' counts, side by side. -/
def cts : Nat → Nat → Nat
  | 0, _ => 0
  | k + 1, x => bcn 8 (x % 256) + 256 * cts k (x / 256)
theorem sw_all : ∀ k x, sw3 k (sw2 k (sw1 k x)) = cts k x
  | 0, x => by unfold sw3 msk cts; simp
  | k + 1, x => by
    have ha : x % 256 < 256 := Nat.mod_lt _ (by omega)
    have e : x = x % 256 + 256 * (x / 256) := by omega
    obtain ⟨h1, h2, _, h4⟩ := by_of ha
    have hl := sw_low k (x / 256)
    obtain ⟨a, hae⟩ : ∃ a, a = x % 256 := ⟨_, rfl⟩
    obtain ⟨b, hbe⟩ : ∃ b, b = x / 256 := ⟨_, rfl⟩
    show _ = bcn 8 (x % 256) + 256 * cts k (x / 256)
    rw [← hae] at ha h1 h2 h4 ⊢
    rw [← hbe] at hl ⊢
    rw [e, ← hae, ← hbe, sw1_byte ha, sw2_byte h1, ← sw_all k b]
    obtain ⟨s, hs⟩ : ∃ s, s = by2 (by1 a) := ⟨_, rfl⟩
    obtain ⟨t, ht⟩ : ∃ t, t = sw2 k (sw1 k b) := ⟨_, rfl⟩
    rw [← hs] at h2 h4 ⊢
    rw [← ht] at hl ⊢
    unfold sw3
    have e2 : (s + 256 * t) / 16 + (s + 256 * t) = (s / 16 + 16 * (t % 16) + s) + 256 * (t / 16 + t) := by omega
    show ((s + 256 * t) / 16 + (s + 256 * t)) &&& (0x0f + 256 * msk 0x0f k) = _
    rw [e2, and_byte (by omega) (by omega), and_fifteen]
    rw [← h4]
    omega
theorem cts_s (k x : Nat) : cts (k + 1) x = bcn 8 x + 256 * cts k (x / 256) := by
  show bcn 8 (x % 2 ^ 8) + 256 * cts k (x / 256) = _
  rw [bcn_mod 8 x]
theorem bcn_s (k x : Nat) : bcn (8 * (k + 1)) x = bcn 8 x + bcn (8 * k) (x / 256) := by
  rw [show 8 * (k + 1) = 8 + 8 * k by omega]
  exact bcn_add 8 (8 * k) x
theorem cts_eight (x : Nat) : ∃ c0 c1 c2 c3 c4 c5 c6 c7, cts 8 x = c0 + 256 * c1 + 65536 * c2 + 16777216 * c3 + 4294967296 * c4 + 1099511627776 * c5 + 281474976710656 * c6 + 72057594037927936 * c7 ∧ c0 ≤ 8 ∧ c1 ≤ 8 ∧ c2 ≤ 8 ∧ c3 ≤ 8 ∧ c4 ≤ 8 ∧ c5 ≤ 8 ∧ c6 ≤ 8 ∧ c7 ≤ 8 ∧ bcn 64 x = c0 + c1 + c2 + c3 + c4 + c5 + c6 + c7 := by
  have step : ∀ k y, ∃ c0 r s, cts (k + 1) y = c0 + 256 * r ∧ bcn (8 * (k + 1)) y = c0 + s ∧ c0 ≤ 8 ∧ r = cts k (y / 256) ∧ s = bcn (8 * k) (y / 256) := fun k y => ⟨bcn 8 y, _, _, cts_s k y, bcn_s k y, bcn_le 8 y, rfl, rfl⟩
  obtain ⟨c0, r0, s0, a0, b0, l0, e0, f0⟩ := step 7 x
  obtain ⟨c1, r1, s1, a1, b1, l1, e1, f1⟩ := step 6 (x / 256)
  rw [← e0] at a1
  rw [← f0] at b1
  obtain ⟨c2, r2, s2, a2, b2, l2, e2, f2⟩ := step 5 (x / 256 / 256)
  rw [← e1] at a2
  rw [← f1] at b2
  obtain ⟨c3, r3, s3, a3, b3, l3, e3, f3⟩ := step 4 (x / 256 / 256 / 256)
  rw [← e2] at a3
  rw [← f2] at b3
  obtain ⟨c4, r4, s4, a4, b4, l4, e4, f4⟩ := step 3 (x / 256 / 256 / 256 / 256)
  rw [← e3] at a4
  rw [← f3] at b4
  obtain ⟨c5, r5, s5, a5, b5, l5, e5, f5⟩ := step 2 (x / 256 / 256 / 256 / 256 / 256)
  rw [← e4] at a5
  rw [← f4] at b5
  obtain ⟨c6, r6, s6, a6, b6, l6, e6, f6⟩ := step 1 (x / 256 / 256 / 256 / 256 / 256 / 256)
  rw [← e5] at a6
  rw [← f5] at b6
  obtain ⟨c7, r7, s7, a7, b7, l7, e7, f7⟩ := step 0 (x / 256 / 256 / 256 / 256 / 256 / 256 / 256)
  rw [← e6] at a7
  rw [← f6] at b7
  have z7 : r7 = 0 := e7
  have y7 : s7 = 0 := f7
  clear step e0 e1 e2 e3 e4 e5 e6 e7 f0 f1 f2 f3 f4 f5 f6 f7
  obtain ⟨A, hA⟩ : ∃ A, A = cts 8 x := ⟨_, rfl⟩
  obtain ⟨B, hB⟩ : ∃ B, B = bcn 64 x := ⟨_, rfl⟩
  have a0 : A = c0 + 256 * r0 := hA.trans a0
  have b0 : B = c0 + s0 := hB.trans b0
  rw [← hA, ← hB]
  clear hA hB
  exact ⟨c0, c1, c2, c3, c4, c5, c6, c7, by omega, l0, l1, l2, l3, l4, l5, l6, l7, by omega⟩
theorem dv_low {c m Y : Nat} (h : c < m) : (c + m * Y) / m = Y := by
  rw [Nat.add_mul_div_left _ _ (by omega), Nat.div_eq_of_lt h, Nat.zero_add]
theorem lin_a (c0 c1 c2 c3 c4 c5 c6 c7 : Nat) : c0 + 256 * c1 + 65536 * c2 + 16777216 * c3 + 4294967296 * c4 + 1099511627776 * c5 + 281474976710656 * c6 + 72057594037927936 * c7 = c0 + 256 * (c1 + 256 * c2 + 65536 * c3 + 16777216 * c4 + 4294967296 * c5 + 1099511627776 * c6 + 281474976710656 * c7) := by omega
theorem lin_b (c0 c1 c2 c3 c4 c5 c6 c7 : Nat) : c0 + 256 * (c1 + 256 * c2 + 65536 * c3 + 16777216 * c4 + 4294967296 * c5 + 1099511627776 * c6 + 281474976710656 * c7) + (c1 + 256 * c2 + 65536 * c3 + 16777216 * c4 + 4294967296 * c5 + 1099511627776 * c6 + 281474976710656 * c7) = (c0 + c1 + 256 * (c1 + c2)) + 65536 * ((c2 + c3) + 256 * (c3 + c4) + 65536 * (c4 + c5) + 16777216 * (c5 + c6) + 4294967296 * (c6 + c7) + 1099511627776 * c7) := by omega
theorem lin_c (c0 c1 c2 c3 c4 c5 c6 c7 : Nat) : (c0 + c1 + 256 * (c1 + c2)) + 65536 * ((c2 + c3) + 256 * (c3 + c4) + 65536 * (c4 + c5) + 16777216 * (c5 + c6) + 4294967296 * (c6 + c7) + 1099511627776 * c7) + ((c2 + c3) + 256 * (c3 + c4) + 65536 * (c4 + c5) + 16777216 * (c5 + c6) + 4294967296 * (c6 + c7) + 1099511627776 * c7) = (c0 + c1 + c2 + c3 + 256 * (c1 + c2 + c3 + c4) + 65536 * (c2 + c3 + c4 + c5) + 16777216 * (c3 + c4 + c5 + c6)) + 4294967296 * ((c4 + c5 + c6 + c7) + 256 * (c5 + c6 + c7) + 65536 * (c6 + c7) + 16777216 * c7) := by omega
theorem lin_d (c0 c1 c2 c3 c4 c5 c6 c7 : Nat) : (c0 + c1 + c2 + c3 + 256 * (c1 + c2 + c3 + c4) + 65536 * (c2 + c3 + c4 + c5) + 16777216 * (c3 + c4 + c5 + c6)) + 4294967296 * ((c4 + c5 + c6 + c7) + 256 * (c5 + c6 + c7) + 65536 * (c6 + c7) + 16777216 * c7) + ((c4 + c5 + c6 + c7) + 256 * (c5 + c6 + c7) + 65536 * (c6 + c7) + 16777216 * c7) = (c0 + c1 + c2 + c3 + c4 + c5 + c6 + c7) + 128 * (2 * ((c1 + c2 + c3 + c4) + (c5 + c6 + c7) + 256 * ((c2 + c3 + c4 + c5) + (c6 + c7)) + 65536 * ((c3 + c4 + c5 + c6) + c7) + 16777216 * ((c4 + c5 + c6 + c7) + 256 * (c5 + c6 + c7) + 65536 * (c6 + c7) + 16777216 * c7))) := by omega
theorem bd_b {c0 c1 c2 : Nat} (k0 : c0 ≤ 8) (k1 : c1 ≤ 8) (k2 : c2 ≤ 8) : c0 + c1 + 256 * (c1 + c2) < 65536 := by omega
theorem bd_c {c0 c1 c2 c3 c4 c5 c6 : Nat} (k0 : c0 ≤ 8) (k1 : c1 ≤ 8) (k2 : c2 ≤ 8) (k3 : c3 ≤ 8) (k4 : c4 ≤ 8) (k5 : c5 ≤ 8) (k6 : c6 ≤ 8) : c0 + c1 + c2 + c3 + 256 * (c1 + c2 + c3 + c4) + 65536 * (c2 + c3 + c4 + c5) + 16777216 * (c3 + c4 + c5 + c6) < 4294967296 := by omega
theorem bd_s {c0 c1 c2 c3 c4 c5 c6 c7 : Nat} (k0 : c0 ≤ 8) (k1 : c1 ≤ 8) (k2 : c2 ≤ 8) (k3 : c3 ≤ 8) (k4 : c4 ≤ 8) (k5 : c5 ≤ 8) (k6 : c6 ≤ 8) (k7 : c7 ≤ 8) : c0 + c1 + c2 + c3 + c4 + c5 + c6 + c7 < 128 := by omega
theorem bd_x {c0 c1 c2 c3 c4 c5 c6 c7 : Nat} (k0 : c0 ≤ 8) (k1 : c1 ≤ 8) (k2 : c2 ≤ 8) (k3 : c3 ≤ 8) (k4 : c4 ≤ 8) (k5 : c5 ≤ 8) (k6 : c6 ≤ 8) (k7 : c7 ≤ 8) : c0 + 256 * c1 + 65536 * c2 + 16777216 * c3 + 4294967296 * c4 + 1099511627776 * c5 + 281474976710656 * c6 + 72057594037927936 * c7 < 1152921504606846976 := by omega
/-- What is added up at the end. -/
theorem swar_ones (x x3 x4 x5 x6 : Nat) (h3 : x3 = cts 8 x) (h4 : x4 = x3 + x3 / 256) (h5 : x5 = x4 + x4 / 65536) (h6 : x6 = x5 + x5 / 4294967296) : x6 % 128 = bcn 64 x ∧ x3 < 1152921504606846976 := by
  obtain ⟨c0, c1, c2, c3, c4, c5, c6, c7, hc, k0, k1, k2, k3, k4, k5, k6, k7, hb⟩ := cts_eight x
  have b3 : x3 < 1152921504606846976 := by rw [h3, hc]; exact bd_x k0 k1 k2 k3 k4 k5 k6 k7
  rw [hc, lin_a] at h3
  rw [h3, dv_low (by exact Nat.lt_of_le_of_lt k0 (by decide)), lin_b] at h4
  rw [h4, dv_low (bd_b k0 k1 k2), lin_c] at h5
  rw [h5, dv_low (bd_c k0 k1 k2 k3 k4 k5 k6), lin_d] at h6
  have bs := bd_s k0 k1 k2 k3 k4 k5 k6 k7
  exact ⟨by rw [h6, Nat.add_mul_mod_self_left, hb]; exact Nat.mod_eq_of_lt bs, b3⟩
end Go.Proofs.Ytlljaliemldjkaa
