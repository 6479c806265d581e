/- Texts of ours, one behind the other: S32 S33 KE1 KE2 KE3 KE4 KE5 S34. -/
import Derived.Test.YthkjaiihlphgfabZT5
import Derived.Test.YthkjaiihlphgfabZV7
import Derived.Shelf.Abstract
import Derived.Test.YthkjaiihlphgfabZL1
import Derived.Test.YthkjaiihlphgfabZA1
/- Plain mathematics of codes of few checks: which checks may be; which places of a check are lost; sums modulo 2; which bits stand in the most odd checks. No Go text here. -/
namespace Go.Proofs.Ythkjaiihlphgfab
open Go.RowKit Go.Sort

end Go.Proofs.Ythkjaiihlphgfab

/- Plain mathematics of codes of few checks: which bits stand in the most odd checks; rounds of turning. No Go text here. -/
namespace Go.Proofs.Ythkjaiihlphgfab
open Go.RowKit Go.Sort

end Go.Proofs.Ythkjaiihlphgfab

/- Codes of few checks: which checks may be (the program's Check, the reference's ChecksMay). -/
namespace Go.Proofs.Ythkjaiihlphgfab
open Go.RowKit Go.Sort

end Go.Proofs.Ythkjaiihlphgfab

/- Codes of few checks: those places of a check for which something holds (those); the sum of its bits (sum). -/
namespace Go.Proofs.Ythkjaiihlphgfab
open Go.RowKit Go.Sort

end Go.Proofs.Ythkjaiihlphgfab

/- Words of bits (package bit); slices.Equal; slices.Max. -/
namespace Go.Proofs.Ythkjaiihlphgfab
open Go.RowKit Go.Sort

end Go.Proofs.Ythkjaiihlphgfab

/- Codes of few checks: the reference's ChecksMay and Bits. -/
namespace Go.Proofs.Ythkjaiihlphgfab
open Go.RowKit Go.Sort

end Go.Proofs.Ythkjaiihlphgfab

/- Codes of few checks: a round of peeling (the program's fill; printed by make/ke5.py). -/
namespace Go.Proofs.Ythkjaiihlphgfab
open Go.RowKit Go.Sort

theorem RowZ.lt' {g n : Nat} {z : Nat → Int} {w : World} (h : RowZ g n z w) : g < w.heap.size := by
  obtain ⟨cap, f, h1, _⟩ := h
  exact h1.lt
end Go.Proofs.Ythkjaiihlphgfab

/- Gray's lists. No Go text here. -/
namespace Go.Proofs.Ythkjaiihlphgfab

/-- Behind the first one. -/
def shf (b : Nat → Nat) : Nat → Nat := fun j => b (j + 1)
/-- From the i-th on. -/
def drp (i : Nat) (b : Nat → Nat) : Nat → Nat := fun j => b (i + j)
theorem shf_drp (i : Nat) (b : Nat → Nat) : shf (drp i b) = drp (i + 1) b := by
  funext j
  show b (i + (j + 1)) = b (i + 1 + j)
  rw [show i + (j + 1) = i + 1 + j by omega]
theorem drp_zero (b : Nat → Nat) : drp 0 b = b := by
  funext j
  show b (0 + j) = b j
  rw [Nat.zero_add]
/-- The product of so many. -/
def prd : Nat → (Nat → Nat) → Nat
  | 0, _ => 1
  | c + 1, b => b 0 * prd c (shf b)
theorem prd_last : ∀ (c : Nat) (b : Nat → Nat), prd (c + 1) b = prd c b * b c
  | 0, b => by show b 0 * 1 = 1 * b 0; omega
  | c + 1, b => by
    show b 0 * prd (c + 1) (shf b) = b 0 * prd c (shf b) * b (c + 1)
    rw [prd_last c (shf b), Nat.mul_assoc]; rfl
theorem prd_pos : ∀ (c : Nat) (b : Nat → Nat), (∀ j, j < c → 1 ≤ b j) → 1 ≤ prd c b
  | 0, _, _ => Nat.le_refl _
  | c + 1, b, h => Nat.mul_le_mul (h 0 (by omega)) (prd_pos c (shf b) fun j hj => h (j + 1) (by omega))
theorem prd_ten : ∀ (c : Nat) (b : Nat → Nat), (∀ j, j < c → b j ≤ 10) → prd c b ≤ 10 ^ c
  | 0, _, _ => Nat.le_refl _
  | c + 1, b, h => by
    have h1 := Nat.mul_le_mul (h 0 (by omega)) (prd_ten c (shf b) fun j hj => h (j + 1) (by omega))
    show b 0 * prd c (shf b) ≤ 10 ^ (c + 1)
    rw [Nat.pow_succ, Nat.mul_comm (10 ^ c)]; exact h1
/-- In which direction. -/
def bhd (v k P : Nat) : Nat := if v % 2 = 0 then k else P - 1 - k
theorem bhd_lt {v k P : Nat} (h : k < P) : bhd v k P < P := by unfold bhd; split <;> omega
theorem bhd_bhd {v k P : Nat} (h : k < P) : bhd v (bhd v k P) P = k := by
  unfold bhd
  split
  · rfl
  · omega
/-- The t-th value of the k-th list. -/
def gry : Nat → (Nat → Nat) → Nat → Nat → Nat
  | 0, _, _, _ => 0
  | c + 1, b, k, 0 => k / prd c (shf b)
  | c + 1, b, k, t + 1 => gry c (shf b) (bhd (k / prd c (shf b)) (k % prd c (shf b)) (prd c (shf b))) t
/-- Which list of the further places it is, at the t-th. -/
def gst (c : Nat) (b : Nat → Nat) (k : Nat) : Nat → Nat
  | 0 => k
  | t + 1 => bhd (gst c b k t / prd (c - (t + 1)) (drp (t + 1) b)) (gst c b k t % prd (c - (t + 1)) (drp (t + 1) b)) (prd (c - (t + 1)) (drp (t + 1) b))
theorem drp_shf (i : Nat) (b : Nat → Nat) : drp i (shf b) = drp (i + 1) b := by
  funext j
  show b (i + j + 1) = b (i + 1 + j)
  rw [show i + j + 1 = i + 1 + j by omega]
theorem gst_front (c : Nat) (b : Nat → Nat) (k : Nat) : ∀ t, gst (c + 1) b k (t + 1) = gst c (shf b) (bhd (k / prd c (shf b)) (k % prd c (shf b)) (prd c (shf b))) t
  | 0 => by
    show bhd (k / prd (c + 1 - 1) (drp 1 b)) (k % prd (c + 1 - 1) (drp 1 b)) (prd (c + 1 - 1) (drp 1 b)) = _
    rw [show c + 1 - 1 = c by omega, ← drp_shf 0 b, drp_zero]; rfl
  | t + 1 => by
    show bhd (gst (c + 1) b k (t + 1) / prd (c + 1 - (t + 1 + 1)) (drp (t + 1 + 1) b)) (gst (c + 1) b k (t + 1) % prd (c + 1 - (t + 1 + 1)) (drp (t + 1 + 1) b)) (prd (c + 1 - (t + 1 + 1)) (drp (t + 1 + 1) b)) = _
    rw [gst_front c b k t, show c + 1 - (t + 1 + 1) = c - (t + 1) by omega, ← drp_shf]; rfl
theorem gry_gst : ∀ (c : Nat) (b : Nat → Nat) (k t : Nat), t < c → gry c b k t = gst c b k t / prd (c - (t + 1)) (drp (t + 1) b)
  | 0, _, _, _, h => absurd h (by omega)
  | c + 1, b, k, 0, _ => by
    show k / prd c (shf b) = k / prd (c + 1 - 1) (drp 1 b)
    rw [show c + 1 - 1 = c by omega, ← drp_shf 0 b, drp_zero]
  | c + 1, b, k, t + 1, h => by
    show gry c (shf b) _ t = _
    rw [gry_gst c (shf b) _ t (by omega), gst_front, drp_shf, show c + 1 - (t + 1 + 1) = c - (t + 1) by omega]
theorem prd_drp (c : Nat) (b : Nat → Nat) (t : Nat) (ht : t < c) : prd (c - t) (drp t b) = b t * prd (c - (t + 1)) (drp (t + 1) b) := by
  rw [show c - t = (c - (t + 1)) + 1 by omega]
  show drp t b 0 * prd (c - (t + 1)) (shf (drp t b)) = _
  rw [shf_drp]; rfl
theorem gst_lt {c : Nat} {b : Nat → Nat} {k : Nat} (hb : ∀ j, j < c → 1 ≤ b j) (hk : k < prd c b) : ∀ t, t ≤ c → gst c b k t < prd (c - t) (drp t b)
  | 0, _ => by rw [drp_zero]; exact hk
  | t + 1, h => by
    refine bhd_lt (Nat.mod_lt _ ?_)
    exact prd_pos _ _ fun j hj => hb (t + 1 + j) (by omega)
/-- The how manieth a list is. -/
def plc : Nat → (Nat → Nat) → (Nat → Nat) → Nat
  | 0, _, _ => 0
  | c + 1, b, l => l 0 * prd c (shf b) + bhd (l 0) (plc c (shf b) (shf l)) (prd c (shf b))
theorem plc_lt : ∀ (c : Nat) (b l : Nat → Nat), (∀ j, j < c → 1 ≤ b j) → (∀ j, j < c → l j < b j) → plc c b l < prd c b
  | 0, _, _, _, _ => Nat.lt_succ_self 0
  | c + 1, b, l, hb, hl => by
    have h1 := bhd_lt (v := l 0) (plc_lt c (shf b) (shf l) (fun j hj => hb (j + 1) (by omega)) (fun j hj => hl (j + 1) (by omega)))
    have h2 := Nat.mul_le_mul_right (prd c (shf b)) (hl 0 (by omega))
    show l 0 * prd c (shf b) + _ < b 0 * prd c (shf b)
    rw [Nat.succ_mul] at h2
    omega
end Go.Proofs.Ythkjaiihlphgfab
