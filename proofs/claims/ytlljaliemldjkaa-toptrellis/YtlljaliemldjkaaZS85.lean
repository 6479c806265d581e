/- Trellises: what all ways come to. No Go text here. -/
import Derived.Test.YtlljaliemldjkaaZS84
import Derived.Test.YtlljaliemldjkaaZKV8
import Derived.Test.YtlljaliemldjkaaZS10
namespace Go.Proofs.Ytlljaliemldjkaa

theorem ct_sam : ∀ {p q : Nat → Bool} (n : Nat), (∀ j, j < n → p j = q j) → ct p n = ct q n
  | p, q, 0, _ => rfl
  | p, q, n + 1, h => by
    show ct p n + (if p n = true then 1 else 0) = ct q n + (if q n = true then 1 else 0)
    rw [ct_sam n (fun j hj => h j (by omega)), h n (by omega)]
theorem snm_half {m : Nat → Nat} {n : Nat} (hm : ∀ i, i < n → m i ≤ 1) (k : Nat) : snm m n (k + 1) / 2 = snm m n k ∧ snm m n (k + 1) % 2 = if k < n then m k else 0 := by
  show (2 * snm m n k + if k < n then m k else 0) / 2 = _ ∧ (2 * snm m n k + if k < n then m k else 0) % 2 = _
  by_cases h : k < n
  · have := hm k h
    rw [if_pos h]; omega
  · rw [if_neg h]; omega
theorem snm_low {m : Nat → Nat} {n : Nat} : ∀ k, k ≤ n → snm m n k = dnum 2 m k
  | 0, _ => rfl
  | k + 1, h => by
    show 2 * snm m n k + (if k < n then m k else 0) = dnum 2 m k * 2 + m k
    rw [if_pos (by omega), snm_low k (by omega)]; omega
theorem snm_end {m : Nat → Nat} {n : Nat} : ∀ d, snm m n (n + d) = dnum 2 m n * 2 ^ d
  | 0 => by rw [Nat.add_zero, snm_low n (Nat.le_refl _), Nat.pow_zero, Nat.mul_one]
  | d + 1 => by
    show 2 * snm m n (n + d) + (if n + d < n then m (n + d) else 0) = _
    rw [if_neg (by omega), snm_end d, Nat.pow_succ, Nat.add_zero, ← Nat.mul_assoc, Nat.mul_comm 2, Nat.mul_assoc, Nat.mul_comm 2 (2 ^ d)]
/-- How many signs of some first steps differ. -/
def aps (z : Nat → Nat) (R : Nat) (y : Nat → Int) (m : Nat → Nat) (n : Nat) : Nat → Nat
  | 0 => 0
  | k + 1 => aps z R y m n k + trn z R y k (snm m n (k + 1))
theorem trn_low {z : Nat → Nat} {R : Nat} {y : Nat → Int} {k M : Nat} (hz : ∀ j, j < R → z j < 2 ^ (M + 1)) (x : Nat) : trn z R y k (x % 2 ^ (M + 1)) = trn z R y k x := by
  unfold trn
  refine ct_sam R fun j hj => ?_
  rw [sgb_low (hz j hj)]
theorem wy_val {z : Nat → Nat} {R : Nat} {y : Nat → Int} {m : Nat → Nat} {n M : Nat} (hm : ∀ i, i < n → m i ≤ 1) (hz : ∀ j, j < R → z j < 2 ^ (M + 1)) : ∀ k, vlu' M (wyS z R y n) (0, 0) k (snm m n k) = (aps z R y m n k, dnum 2 m (min k n))
  | 0 => by rw [Nat.zero_min]; rfl
  | k + 1 => by
    show wyS z R y n k (snm m n (k + 1) % 2 ^ (M + 1)) (vlu' M (wyS z R y n) (0, 0) k (snm m n (k + 1) / 2)) = _
    have hh := snm_half hm k
    rw [hh.1, wy_val hm hz k]
    unfold wyS
    rw [trn_low hz]
    have e : snm m n (k + 1) % 2 ^ (M + 1) % 2 = snm m n (k + 1) % 2 := Nat.mod_mod_of_dvd _ ⟨2 ^ M, by rw [Nat.pow_succ, Nat.mul_comm]⟩
    rw [e, hh.2]
    by_cases h : k < n
    · rw [if_pos h, if_pos h, Nat.min_eq_left (by omega), Nat.min_eq_left (by omega)]
      show (_, 2 * dnum 2 m k + m k) = (_, dnum 2 m k * 2 + m k)
      rw [Nat.mul_comm]; rfl
    · rw [if_neg h, Nat.min_eq_right (by omega), Nat.min_eq_right (by omega)]; rfl
/-- How many of the signs of the message with a number differ. -/
def apt (z : Nat → Nat) (R : Nat) (y : Nat → Int) (n M : Nat) (u : Nat) : Nat := aps z R y (dgs 2 n u) n (n + M)
theorem dgs_le1 (n u i : Nat) : dgs 2 n u i ≤ 1 := by have := dgs_lt (q := 2) (k := n) (a := u) (by omega) i; omega
theorem wy_end {z : Nat → Nat} {R : Nat} {y : Nat → Int} {n M u : Nat} (hz : ∀ j, j < R → z j < 2 ^ (M + 1)) (hu : u < 2 ^ n) : vlu' M (wyS z R y n) (0, 0) (n + M) (u * 2 ^ M) = (apt z R y n M u, u) := by
  have h := wy_val (y := y) (m := dgs 2 n u) (n := n) (fun i _ => dgs_le1 n u i) hz (n + M)
  rw [snm_end, Nat.min_eq_right (by omega), dnum_dgs (by omega) hu] at h
  exact h
theorem ct_block (f : Nat → Bool) (R : Nat) : ∀ k, ct f (R * (k + 1)) = ct f (R * k) + ct (fun j => f (R * k + j)) R := fun k => by
  rw [Nat.mul_add, Nat.mul_one]
  generalize R * k = N
  induction R with
  | zero => rfl
  | succ R ih =>
    show ct f (N + R) + (if f (N + R) = true then 1 else 0) = ct f N + (ct (fun j => f (N + j)) R + if f (N + R) = true then 1 else 0)
    rw [ih]; omega
theorem aps_ct {z : Nat → Nat} {R : Nat} {y : Nat → Int} {m : Nat → Nat} {n : Nat} : ∀ k, aps z R y m n k = ct (fun i => !decide (((sgn' z R m n i : Nat) : Int) = y i)) (R * k)
  | 0 => by rw [Nat.mul_zero]; rfl
  | k + 1 => by
    show aps z R y m n k + trn z R y k (snm m n (k + 1)) = _
    rw [ct_block, aps_ct k]
    congr 1
    unfold trn
    refine ct_sam R fun j hj => ?_
    unfold sgn'
    rw [Nat.mul_add_mod, Nat.mod_eq_of_lt hj, Nat.mul_add_div (by omega), Nat.div_eq_of_lt hj, Nat.add_zero, Nat.mul_comm k R]
/-- The first of the least. -/
def Fst (f : Nat → Nat) (N b : Nat) : Prop := b < N ∧ ∀ r, r < N → f b < f r ∨ (f b = f r ∧ b ≤ r)
theorem gat_fst (f : Nat → Nat) : ∀ N, 0 < N → ∃ b, Fst f N b ∧ gat wyB (fun u => some (f u, u)) (List.range N) = some (f b, b)
  | 0, h => absurd h (by omega)
  | N + 1, _ => by
    rw [List.range_succ, gat_snoc]
    by_cases h0 : N = 0
    · subst h0
      exact ⟨0, ⟨by omega, fun r hr => Or.inr ⟨by rw [show r = 0 from Nat.lt_one_iff.1 hr], Nat.zero_le _⟩⟩, rfl⟩
    · obtain ⟨b, hb, e⟩ := gat_fst f N (by omega)
      rw [e]
      show ∃ b', _ ∧ some (wyB (f b, b) (f N, N)) = _
      unfold wyB
      by_cases c : f N < f b ∨ (f N = f b ∧ N < b)
      · rw [if_pos c]
        have hbN := hb.1
        refine ⟨N, ⟨by omega, fun r hr => ?_⟩, rfl⟩
        by_cases er : r = N
        · rw [er]; exact Or.inr ⟨rfl, Nat.le_refl _⟩
        · have := hb.2 r (by omega); omega
      · rw [if_neg c]
        have hbN := hb.1
        refine ⟨b, ⟨by omega, fun r hr => ?_⟩, rfl⟩
        by_cases er : r = N
        · rw [er]
          have c' : ¬ (f N < f b ∨ (f N = f b ∧ N < b)) := c
          omega
        · exact hb.2 r (by omega)
/-- What Viterbi's ways come to. -/
theorem vit_end {z : Nat → Nat} {R : Nat} {y : Nat → Int} {n M : Nat} (hz : ∀ j, j < R → z j < 2 ^ (M + 1)) : ∃ b, Fst (apt z R y n M) (2 ^ n) b ∧ thF wyB M n (wyS z R y n) (0, 0) (n + M) 0 = some (apt z R y n M b, b) := by
  rw [thF_end wy_mts (wyS_over z R y n)]
  obtain ⟨b, hb, e⟩ := gat_fst (apt z R y n M) (2 ^ n) (Nat.pow_pos (by omega))
  refine ⟨b, hb, ?_⟩
  rw [← e]
  exact gat_congr fun u hu => by rw [wy_end hz (List.mem_range.1 hu)]
/-- Bounds of the ways. -/
def wyOk (n k : Nat) (p : Nat × Nat) : Prop := p.1 ≤ 3 * k ∧ p.2 < 2 ^ min k n
theorem wyOk_all {z : Nat → Nat} {R : Nat} {y : Nat → Int} {n M : Nat} (hR : R ≤ 3) (k s : Nat) (p : Nat × Nat) (h : thF wyB M n (wyS z R y n) (0, 0) k s = some p) : wyOk n k p := by
  refine thF_all wy_mts (P := wyOk n) ⟨by show 0 ≤ 3 * 0; omega, by rw [Nat.zero_min]; show 0 < 1; omega⟩ (fun k a b ha hb => ?_) (fun k x a ha => ?_) k s p h
  · unfold wyB; split
    · exact hb
    · exact ha
  · obtain ⟨h1, h2⟩ := ha
    have ht := trn_le z R y k x
    refine ⟨by show a.1 + trn z R y k x ≤ 3 * (k + 1); omega, ?_⟩
    show (if k < n then 2 * a.2 + x % 2 else a.2) < 2 ^ min (k + 1) n
    by_cases hk : k < n
    · rw [if_pos hk, Nat.min_eq_left (by omega), Nat.pow_succ]
      rw [Nat.min_eq_left (by omega)] at h2
      omega
    · rw [if_neg hk, Nat.min_eq_right (by omega)]
      rw [Nat.min_eq_right (by omega)] at h2
      exact h2
end Go.Proofs.Ytlljaliemldjkaa
