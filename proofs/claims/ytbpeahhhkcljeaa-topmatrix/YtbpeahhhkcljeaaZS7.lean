/- Plain mathematics: as many columns as rows are free of one another (the rank of the matrix turned). -/
import Derived.Test.YtbpeahhhkcljeaaZS5
namespace Go.Proofs.Ytbpeahhhkcljeaa

/-- The matrix of m rows, turned. -/
def trn (m : Nat) (M : Nat → Nat → Nat) : Nat → Nat → Nat := fun j i => if i < m then M i j else 0
theorem trn_el {D : FD} (F : Fld D) {m : Nat} {M : Nat → Nat → Nat} (h : ∀ i, i < m → El D (M i)) (j : Nat) : El D (trn m M j) := fun i => by
  unfold trn
  by_cases e : i < m
  · rw [if_pos e]; exact h i e j
  · rw [if_neg e]; exact zero_lt' F
theorem trn_bd (m : Nat) (M : Nat → Nat → Nat) (j : Nat) : Bd m (trn m M j) := fun i hi => by unfold trn; rw [if_neg (by omega)]
theorem trn_trn {m n : Nat} {M : Nat → Nat → Nat} {i : Nat} (hi : i < m) (h : Bd n (M i)) : trn n (trn m M) i = M i := by
  funext j
  unfold trn
  by_cases e : j < n
  · rw [if_pos e, if_pos hi]
  · rw [if_neg e, h j (by omega)]
/-- A column as a sum of those in which rows begin. -/
def lcT (D : FD) (R : Nat → Nat → Nat) (p : Nat → Nat) (T : Nat → Nat → Nat) (j : Nat) : Nat → Nat → Nat
  | 0 => pnil
  | l + 1 => padd D (lcT D R p T j l) (pscale D (R l j) (T (p l)))
theorem lcT_spn {D : FD} (F : Fld D) {R : Nat → Nat → Nat} {p : Nat → Nat} {T : Nat → Nat → Nat} (hT : ∀ j, El D (T j)) (j k : Nat) : ∀ l, l ≤ k → Spn D (RowsOf k fun l => T (p l)) (lcT D R p T j l)
  | 0, _ => spn_nil D _
  | l + 1, h => spn_add F (lcT_spn F hT j k l (by omega)) (spn_scale F _ (spn_mem F (hT _) ⟨l, by omega, rfl⟩))
theorem lcT_at {D : FD} (F : Fld D) {R : Nat → Nat → Nat} {p : Nat → Nat} {m : Nat} {M : Nat → Nat → Nat} (j i : Nat) (hi : i < m) : ∀ l, lcT D R p (trn m M) j l i = lcR D R p (M i) l j
  | 0 => rfl
  | l + 1 => by
    show D.ad (lcT D R p (trn m M) j l i) (D.mul (R l j) (trn m M (p l) i)) = D.ad (lcR D R p (M i) l j) (D.mul (M i (p l)) (R l j))
    rw [lcT_at F j i hi l, F.mul_comm]
    unfold trn
    rw [if_pos hi]
theorem lcT_out {D : FD} (F : Fld D) {R : Nat → Nat → Nat} {p : Nat → Nat} {m : Nat} {M : Nat → Nat → Nat} (j i : Nat) (hi : ¬ i < m) : ∀ l, lcT D R p (trn m M) j l i = 0
  | 0 => rfl
  | l + 1 => by
    show D.ad (lcT D R p (trn m M) j l i) (D.mul (R l j) (trn m M (p l) i)) = 0
    rw [lcT_out F j i hi l]
    unfold trn
    rw [if_neg hi, mul0 F, ad_zero F (zero_lt' F)]
theorem tr_le {D : FD} (hD : D ∈ fieldsL) {m n k k' : Nat} {M R R' : Nat → Nat → Nat} {p p' : Nat → Nat} (hM : ∀ i, i < m → El D (M i)) (h : RRE D n k R p) (hs : ∀ v, Spn D (RowsOf k R) v ↔ Spn D (RowsOf m M) v) (h' : RRE D m k' R' p') (hs' : ∀ v, Spn D (RowsOf k' R') v ↔ Spn D (RowsOf n (trn m M)) v) : k' ≤ k := by
  have F := fld hD
  have hT := trn_el F hM
  have key : ∀ j, trn m M j = lcT D R p (trn m M) j k := fun j => by
    funext i
    by_cases e : i < m
    · rw [lcT_at F j i e k]
      have h1 := congrFun (rre_coord F h ((hs _).2 (spn_mem F (hM i e) ⟨i, e, rfl⟩))) j
      rw [← h1]
      unfold trn
      rw [if_pos e]
    · rw [lcT_out F j i e k]
      unfold trn
      rw [if_neg e]
  obtain ⟨k2, R2, p2, hk2, hR2, hS2⟩ := rre_ex hD (m := k) (n := m) (R := fun l => trn m M (p l)) (fun i _ => hT _) (fun i _ => trn_bd m M _)
  have hspan : ∀ v, Spn D (RowsOf n (trn m M)) v ↔ Spn D (RowsOf k fun l => trn m M (p l)) v := fun v => by
    constructor
    · refine fun hv => spn_le F (fun u hu => ?_) hv
      obtain ⟨j, _, rfl⟩ := hu
      rw [key j]
      exact lcT_spn F hT j k k (Nat.le_refl _)
    · refine fun hv => spn_le F (fun u hu => ?_) hv
      obtain ⟨l, hl, rfl⟩ := hu
      exact spn_mem F (hT _) ⟨p l, h.lt l hl, rfl⟩
  have := (rre_uniq F h' hR2 (fun v => (hs' v).trans ((hspan v).trans (hS2 v).symm))).1
  omega
/-- A matrix and the one turned have as many rows in their one forms. -/
theorem tr_eq {D : FD} (hD : D ∈ fieldsL) {m n k k' : Nat} {M R R' : Nat → Nat → Nat} {p p' : Nat → Nat} (hM : ∀ i, i < m → El D (M i) ∧ Bd n (M i)) (h : RRE D n k R p) (hs : ∀ v, Spn D (RowsOf k R) v ↔ Spn D (RowsOf m M) v) (h' : RRE D m k' R' p') (hs' : ∀ v, Spn D (RowsOf k' R') v ↔ Spn D (RowsOf n (trn m M)) v) : k = k' := by
  have F := fld hD
  have a := tr_le hD (fun i hi => (hM i hi).1) h hs h' hs'
  have b := tr_le hD (M := trn m M) (fun i _ => trn_el F (fun i hi => (hM i hi).1) i) h' hs' h (fun v => (hs v).trans ?_)
  · omega
  · constructor
    · refine fun hv => spn_le F (fun u hu => ?_) hv
      obtain ⟨i, hi, rfl⟩ := hu
      exact spn_mem F (hM i hi).1 ⟨i, hi, (trn_trn hi (hM i hi).2).symm⟩
    · refine fun hv => spn_le F (fun u hu => ?_) hv
      obtain ⟨i, hi, rfl⟩ := hu
      rw [trn_trn hi (hM i hi).2]
      exact spn_mem F (hM i hi).1 ⟨i, hi, rfl⟩
end Go.Proofs.Ytbpeahhhkcljeaa
