/- Plain mathematics: sums of products, bounded by the sum of the numbers; split into two parts. No Go text here. -/
import Derived.Test.YtnjbnamcedfjaaaZKB1
import Derived.Test.YtnjbnamcedfjaaaZKA4
namespace Go.Proofs.Ytnjbnamcedfjaaa

/-- The sum of numbers. -/
def tsm (f : Nat → Int) (r : Nat) : Int := vsm f (fun _ => 1) r
theorem tsm_succ (f : Nat → Int) (r : Nat) : tsm f (r + 1) = tsm f r + f r := by
  show vsm f (fun _ => 1) r + f r * 1 = _
  rw [Int.mul_one]; rfl
theorem tsm_nn {f : Nat → Int} {N : Nat} (hf : ∀ j, j < N → 0 ≤ f j) : ∀ r, r ≤ N → 0 ≤ tsm f r
  | 0, _ => Int.le_refl _
  | r + 1, h => by
    have h1 := tsm_nn hf r (by omega)
    have h2 := hf r (by omega)
    rw [tsm_succ]
    omega
theorem tsm_mono {f : Nat → Int} {N : Nat} (hf : ∀ j, j < N → 0 ≤ f j) : ∀ d r, r + d ≤ N → tsm f r ≤ tsm f (r + d)
  | 0, r, _ => Int.le_refl _
  | d + 1, r, h => by
    have h1 := tsm_mono hf d r (by omega)
    have h2 := hf (r + d) (by omega)
    rw [show r + (d + 1) = r + d + 1 from rfl, tsm_succ]
    omega
theorem tsm_le {f : Nat → Int} {N : Nat} (hf : ∀ j, j < N → 0 ≤ f j) {r : Nat} (hr : r ≤ N) : tsm f r ≤ tsm f N := by
  have h := tsm_mono hf (N - r) r (by omega)
  rw [show r + (N - r) = N by omega] at h
  exact h
theorem tsm_item {f : Nat → Int} {N : Nat} (hf : ∀ j, j < N → 0 ≤ f j) {r : Nat} (hr : r < N) : f r ≤ tsm f N := by
  have h := tsm_le hf (show r + 1 ≤ N by omega)
  have h2 := tsm_nn hf r (by omega)
  rw [tsm_succ] at h
  omega
theorem tsm_below {f g : Nat → Int} {N : Nat} (hg : ∀ j, j < N → g j ≤ f j) : ∀ r, r ≤ N → tsm g r ≤ tsm f r
  | 0, _ => Int.le_refl _
  | r + 1, h => by
    have h1 := tsm_below hg r (by omega)
    have h2 := hg r (by omega)
    rw [tsm_succ, tsm_succ]
    omega
theorem tsm_cap {f : Nat → Int} {M N : Nat} (hf : ∀ j, j < N → f j ≤ (M : Int)) : ∀ r, r ≤ N → tsm f r ≤ ((r * M : Nat) : Int)
  | 0, _ => by rw [Nat.zero_mul]; exact Int.le_refl _
  | r + 1, h => by
    have h1 := tsm_cap hf r (by omega)
    have h2 := hf r (by omega)
    rw [tsm_succ, Nat.add_mul]
    omega
theorem vsm_bound {f K : Nat → Int} {B N : Nat} (hf : ∀ j, j < N → 0 ≤ f j) (hK : ∀ j, j < N → (K j).natAbs ≤ B) : ∀ r, r ≤ N → (vsm f K r).natAbs ≤ B * (tsm f r).toNat
  | 0, _ => by show (0 : Int).natAbs ≤ _; simp
  | r + 1, h => by
    have h1 := vsm_bound hf hK r (by omega)
    have h2 := hf r (by omega)
    have h3 := tsm_nn hf r (by omega)
    have h4 : (f r * K r).natAbs ≤ B * (f r).toNat := by
      rw [Int.natAbs_mul, Nat.mul_comm]
      exact Nat.mul_le_mul (hK r (by omega)) (by omega)
    have h5 := Int.natAbs_add_le (vsm f K r) (f r * K r)
    rw [tsm_succ, show (tsm f r + f r).toNat = (tsm f r).toNat + (f r).toNat by omega, Nat.mul_add]
    show (vsm f K r + f r * K r).natAbs ≤ _
    omega
theorem tsm_part {f : Nat → Int} : ∀ r, 32768 * tsm (fun j => f j / 32768) r ≤ tsm f r
  | 0 => Int.le_refl _
  | r + 1 => by
    have h1 := tsm_part (f := f) r
    rw [tsm_succ, tsm_succ]
    omega
theorem vsm_split (f K : Nat → Int) : ∀ r, vsm f K r = 32768 * vsm (fun j => f j / 32768) K r + vsm (fun j => f j % 32768) K r
  | 0 => rfl
  | r + 1 => by
    show vsm f K r + f r * K r = 32768 * (vsm (fun j => f j / 32768) K r + f r / 32768 * K r) + (vsm (fun j => f j % 32768) K r + f r % 32768 * K r)
    have h : f r * K r = 32768 * (f r / 32768 * K r) + f r % 32768 * K r := by
      rw [← Int.mul_assoc, ← Int.add_mul]
      congr 1
      omega
    rw [vsm_split f K r, h]
    omega
/-- What both sides hold of a sum, for numbers that may be. -/
structure Trn (f K : Nat → Int) (N : Nat) (A : Int) : Prop where
  nn : ∀ j, j < N → 0 ≤ f j
  kb : ∀ j, j < N → (K j).natAbs ≤ 1073741824
  sum : tsm f N = A
  pos : 0 < A
  le : A ≤ 1073741824
theorem Trn.item {f K : Nat → Int} {N : Nat} {A : Int} (h : Trn f K N A) {j : Nat} (hj : j < N) : 0 ≤ f j ∧ f j ≤ 1073741824 :=
  ⟨h.nn j hj, by have := tsm_item h.nn hj; have := h.sum; have := h.le; omega⟩
theorem Trn.any {f K g : Nat → Int} {N : Nat} {A : Int} (h : Trn f K N A) (hg : ∀ j, j < N → 0 ≤ g j ∧ g j ≤ f j) : ∀ r, r ≤ N → (vsm g K r).natAbs ≤ 1152921504606846976 := fun r hr => by
  have h1 := vsm_bound (fun j hj => (hg j hj).1) h.kb r hr
  have h2 := tsm_below (fun j hj => (hg j hj).2) r hr
  have h3 := tsm_le h.nn hr
  have h4 := h.sum
  have h5 := h.le
  have h6 : 1073741824 * (tsm g r).toNat ≤ 1073741824 * 1073741824 := Nat.mul_le_mul_left _ (by omega)
  omega
theorem Trn.abs {f K : Nat → Int} {N : Nat} {A : Int} (h : Trn f K N A) : ∀ r, r ≤ N → (vsm f K r).natAbs ≤ 1152921504606846976 := h.any (fun j hj => ⟨h.nn j hj, Int.le_refl _⟩)
theorem Trn.term {f K : Nat → Int} {N : Nat} {A : Int} (h : Trn f K N A) {g : Int} {j : Nat} (hj : j < N) (hg : 0 ≤ g ∧ g ≤ f j) : (g * K j).natAbs ≤ 1152921504606846976 := by
  have h1 := h.item hj
  rw [Int.natAbs_mul]
  exact Nat.le_trans (Nat.mul_le_mul (show g.natAbs ≤ 1073741824 by omega) (h.kb j hj)) (by omega)
/-- The high part, divided, is small. -/
theorem Trn.high {f K : Nat → Int} {N : Nat} {A : Int} (h : Trn f K N A) : ((vsm (fun j => f j / 32768) K N).tdiv A * 32768).natAbs ≤ 1073741824 := by
  have hf2 : ∀ j, j < N → 0 ≤ f j / 32768 := fun j hj => by have := h.nn j hj; omega
  have h1 := vsm_bound hf2 h.kb N (Nat.le_refl _)
  have h2 := tsm_part (f := f) N
  have h3 := tsm_nn hf2 N (Nat.le_refl _)
  have h4 := h.sum
  have h5 := h.pos
  obtain ⟨H, hH⟩ : ∃ H, H = vsm (fun j => f j / 32768) K N := ⟨_, rfl⟩
  obtain ⟨T, hT⟩ : ∃ T, T = (tsm (fun j => f j / 32768) N).toNat := ⟨_, rfl⟩
  rw [← hH, ← hT] at h1
  rw [← hH]
  have h6 : 32768 * T ≤ A.natAbs := by omega
  have h7 : H.natAbs * 32768 ≤ 1073741824 * A.natAbs := by
    have : H.natAbs * 32768 ≤ 1073741824 * T * 32768 := Nat.mul_le_mul_right _ h1
    rw [Nat.mul_assoc, Nat.mul_comm T] at this
    exact Nat.le_trans this (Nat.mul_le_mul_left _ h6)
  rw [Int.natAbs_mul, Int.natAbs_tdiv]
  have h8 : H.natAbs / A.natAbs * A.natAbs ≤ H.natAbs := Nat.div_mul_le_self _ _
  have h9 : H.natAbs / A.natAbs * 32768 * A.natAbs ≤ 1073741824 * A.natAbs := by
    have := Nat.mul_le_mul_right 32768 h8
    rw [Nat.mul_right_comm]
    exact Nat.le_trans this h7
  exact Nat.le_of_mul_le_mul_right h9 (by omega)
end Go.Proofs.Ytnjbnamcedfjaaa
