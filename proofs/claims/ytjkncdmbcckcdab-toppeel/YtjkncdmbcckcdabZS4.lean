/- Texts of ours, one behind the other: S4 T9. -/
import Derived.Test.YtjkncdmbcckcdabZL10
import Derived.Test.YtjkncdmbcckcdabZL1
import Derived.Test.YtjkncdmbcckcdabZT5
import Derived.Test.YtjkncdmbcckcdabZR5
/- Plain mathematics: one row for each column in which no row of a reduced form begins (Null). -/
namespace Go.Proofs.Ytjkncdmbcckcdab

/-- Of the first c columns, in how many none of the k rows begins. -/
def nct (k : Nat) (p : Nat → Nat) : Nat → Nat
  | 0 => 0
  | c + 1 => if ∀ i, i < k → p i ≠ c then nct k p c + 1 else nct k p c
/-- The i-th of these columns. -/
def fcs (k : Nat) (p : Nat → Nat) : Nat → Nat → Nat
  | 0, _ => 0
  | c + 1, i => if i = nct k p c then c else fcs k p c i
theorem nct_yes {k : Nat} {p : Nat → Nat} {c : Nat} (h : ∀ i, i < k → p i ≠ c) : nct k p (c + 1) = nct k p c + 1 := if_pos h
theorem nct_no {k : Nat} {p : Nat → Nat} {c : Nat} (h : ¬ ∀ i, i < k → p i ≠ c) : nct k p (c + 1) = nct k p c := if_neg h
theorem nct_le (k : Nat) (p : Nat → Nat) : ∀ c, nct k p c ≤ c
  | 0 => Nat.le_refl _
  | c + 1 => by
    have := nct_le k p c
    by_cases h : ∀ i, i < k → p i ≠ c
    · rw [nct_yes h]; omega
    · rw [nct_no h]; omega
theorem fcs_at (k : Nat) (p : Nat → Nat) (c : Nat) : fcs k p (c + 1) (nct k p c) = c := if_pos rfl
theorem fcs_lo {k : Nat} {p : Nat → Nat} {c i : Nat} (h : i < nct k p c) : fcs k p (c + 1) i = fcs k p c i := if_neg (by omega)
theorem fcs_ok {k : Nat} {p : Nat → Nat} : ∀ c i, i < nct k p c → fcs k p c i < c ∧ ∀ j, j < k → p j ≠ fcs k p c i
  | 0, i, hi => absurd hi (by simp [nct])
  | c + 1, i, hi => by
    by_cases h : ∀ i, i < k → p i ≠ c
    · rw [nct_yes h] at hi
      by_cases e : i = nct k p c
      · rw [e, fcs_at]; exact ⟨by omega, h⟩
      · rw [fcs_lo (by omega)]
        have := fcs_ok (k := k) (p := p) c i (by omega)
        exact ⟨Nat.lt_succ_of_lt this.1, this.2⟩
    · rw [nct_no h] at hi
      rw [fcs_lo hi]
      have := fcs_ok (k := k) (p := p) c i hi
      exact ⟨Nat.lt_succ_of_lt this.1, this.2⟩
theorem fcs_mono {k : Nat} {p : Nat → Nat} : ∀ c i j, i < j → j < nct k p c → fcs k p c i < fcs k p c j
  | 0, i, j, _, hj => absurd hj (by simp [nct])
  | c + 1, i, j, hij, hj => by
    by_cases h : ∀ i, i < k → p i ≠ c
    · rw [nct_yes h] at hj
      rw [fcs_lo (i := i) (by omega)]
      by_cases e : j = nct k p c
      · rw [e, fcs_at]; exact (fcs_ok c i (by omega)).1
      · rw [fcs_lo (by omega)]; exact fcs_mono c i j hij (by omega)
    · rw [nct_no h] at hj
      rw [fcs_lo hj, fcs_lo (i := i) (by omega)]; exact fcs_mono c i j hij hj
theorem fcs_inj {k : Nat} {p : Nat → Nat} {c i j : Nat} (hi : i < nct k p c) (hj : j < nct k p c) (h : fcs k p c i = fcs k p c j) : i = j := by
  rcases Nat.lt_trichotomy i j with e | e | e
  · have := fcs_mono c i j e hj; omega
  · exact e
  · have := fcs_mono c j i e hi; omega
/-- The row for column c, the first r of the beginnings filled in. -/
def nrv (D : FD) (R : Nat → Nat → Nat) (p : Nat → Nat) (c : Nat) : Nat → Nat → Nat
  | 0, j => if j = c then 1 else 0
  | r + 1, j => if j = p r then D.ng (R r c) else nrv D R p c r j
theorem nrv_el {D : FD} (F : Fld D) {R : Nat → Nat → Nat} {p : Nat → Nat} {c : Nat} : ∀ r, (∀ i, i < r → El D (R i)) → El D (nrv D R p c r)
  | 0, _ => fun j => by
    show (if j = c then 1 else 0) < D.q
    by_cases e : j = c
    · rw [if_pos e]; exact one_lt' F
    · rw [if_neg e]; exact zero_lt' F
  | r + 1, h => fun j => by
    show (if j = p r then D.ng (R r c) else nrv D R p c r j) < D.q
    by_cases e : j = p r
    · rw [if_pos e]; exact ng_lt F (h r (by omega) c)
    · rw [if_neg e]; exact nrv_el F r (fun i hi => h i (by omega)) j
theorem nrv_bd {D : FD} {R : Nat → Nat → Nat} {p : Nat → Nat} {c n : Nat} (hc : c < n) : ∀ r, (∀ i, i < r → p i < n) → Bd n (nrv D R p c r)
  | 0, _ => fun j hj => by
    show (if j = c then 1 else 0) = 0
    rw [if_neg (by omega)]
  | r + 1, h => fun j hj => by
    show (if j = p r then D.ng (R r c) else nrv D R p c r j) = 0
    rw [if_neg (by have := h r (by omega); omega)]
    exact nrv_bd hc r (fun i hi => h i (by omega)) j hj
theorem nrv_free {D : FD} {R : Nat → Nat → Nat} {p : Nat → Nat} {c j : Nat} : ∀ r, (∀ i, i < r → p i ≠ j) → nrv D R p c r j = if j = c then 1 else 0
  | 0, _ => rfl
  | r + 1, h => by
    show (if j = p r then D.ng (R r c) else nrv D R p c r j) = _
    rw [if_neg (fun e => h r (by omega) e.symm)]
    exact nrv_free r (fun i hi => h i (by omega))
/-- The rows for the first c columns. -/
def nul (D : FD) (R : Nat → Nat → Nat) (p : Nat → Nat) (k c : Nat) : Nat → Nat → Nat := fun i => nrv D R p (fcs k p c i) k
theorem nul_lo {D : FD} {R : Nat → Nat → Nat} {p : Nat → Nat} {k c i : Nat} (h : i < nct k p c) : nul D R p k (c + 1) i = nul D R p k c i := by
  unfold nul
  rw [fcs_lo h]
theorem nul_at (D : FD) (R : Nat → Nat → Nat) (p : Nat → Nat) (k c : Nat) : nul D R p k (c + 1) (nct k p c) = nrv D R p c k := by
  unfold nul
  rw [fcs_at]
theorem nul_el {D : FD} (F : Fld D) {k : Nat} {R : Nat → Nat → Nat} {p : Nat → Nat} (h : ∀ i, i < k → El D (R i)) (c i : Nat) : El D (nul D R p k c i) := nrv_el F k h
theorem nul_bd {D : FD} {n k : Nat} {R : Nat → Nat → Nat} {p : Nat → Nat} (h : ∀ i, i < k → p i < n) {i : Nat} (hi : i < nct k p n) : Bd n (nul D R p k n i) := nrv_bd (fcs_ok n i hi).1 k h
theorem nul_one {D : FD} {n k : Nat} {R : Nat → Nat → Nat} {p : Nat → Nat} {i j : Nat} (hi : i < nct k p n) (hj : j < nct k p n) : nul D R p k n i (fcs k p n j) = if i = j then 1 else 0 := by
  unfold nul
  rw [nrv_free k (fcs_ok n j hj).2]
  by_cases e : i = j
  · rw [if_pos e, e, if_pos rfl]
  · rw [if_neg e, if_neg (fun h => e (fcs_inj hi hj h.symm))]
/-- None of them is a sum of those ahead. -/
theorem nul_ind {D : FD} (F : Fld D) {n k : Nat} {R : Nat → Nat → Nat} {p : Nat → Nat} {j : Nat} (hj : j < nct k p n) : ¬ Spn D (RowsOf j (nul D R p k n)) (nul D R p k n j) := fun h => by
  have h1 : nul D R p k n j (fcs k p n j) = 0 := by
    refine spn_ind (Q := fun v => v (fcs k p n j) = 0) rfl (fun u v hu hv => ?_) (fun s v hv => ?_) (fun v hv => ?_) h
    · show D.ad (u _) (v _) = 0
      rw [hu, hv, ad_zero F (zero_lt' F)]
    · show D.mul s (v _) = 0
      rw [hv, mul0 F]
    · obtain ⟨i, hi, rfl⟩ := hv
      rw [nul_one (by omega) hj, if_neg (by omega)]
  rw [nul_one hj hj, if_pos rfl] at h1
  omega
theorem nct_congr {k : Nat} {p p' : Nat → Nat} (h : ∀ i, i < k → p i = p' i) : ∀ c, nct k p c = nct k p' c
  | 0 => rfl
  | c + 1 => by
    by_cases e : ∀ i, i < k → p i ≠ c
    · rw [nct_yes e, nct_yes (fun i hi => by rw [← h i hi]; exact e i hi), nct_congr h c]
    · rw [nct_no e, nct_no (fun e' => e (fun i hi => by rw [h i hi]; exact e' i hi)), nct_congr h c]
theorem fcs_congr {k : Nat} {p p' : Nat → Nat} (h : ∀ i, i < k → p i = p' i) : ∀ c i, fcs k p c i = fcs k p' c i
  | 0, _ => rfl
  | c + 1, i => by
    show (if i = nct k p c then c else fcs k p c i) = if i = nct k p' c then c else fcs k p' c i
    rw [nct_congr h c, fcs_congr h c i]
theorem nrv_congr {D : FD} {R R' : Nat → Nat → Nat} {p p' : Nat → Nat} (c : Nat) : ∀ r, (∀ i, i < r → p i = p' i ∧ R i = R' i) → nrv D R p c r = nrv D R' p' c r
  | 0, _ => rfl
  | r + 1, h => by
    funext j
    show (if j = p r then D.ng (R r c) else nrv D R p c r j) = if j = p' r then D.ng (R' r c) else nrv D R' p' c r j
    rw [(h r (by omega)).1, (h r (by omega)).2, nrv_congr c r (fun i hi => h i (by omega))]
theorem nul_congr {D : FD} {k : Nat} {R R' : Nat → Nat → Nat} {p p' : Nat → Nat} (h : ∀ i, i < k → p i = p' i ∧ R i = R' i) (c : Nat) : nul D R p k c = nul D R' p' k c := by
  funext i
  unfold nul
  rw [fcs_congr (fun i hi => (h i hi).1) c i, nrv_congr _ k h]
theorem free_zl {k c : Nat} {p : Nat → Nat} : (c : Int) ∈ zl k (fun j => ((p j : Nat) : Int)) ↔ ¬ ∀ i, i < k → p i ≠ c := by
  rw [zl_mem]
  constructor
  · rintro ⟨j, hj, e⟩ h
    exact h j hj (by omega)
  · intro h
    refine Classical.byContradiction fun hn => h fun i hi e => hn ⟨i, hi, by rw [e]⟩
end Go.Proofs.Ytjkncdmbcckcdab

/- The reference's matrices: the rows that make all rows 0 (Null). -/
namespace Go.Proofs.Ytjkncdmbcckcdab
open Go.RowKit Go.Sort

end Go.Proofs.Ytjkncdmbcckcdab
