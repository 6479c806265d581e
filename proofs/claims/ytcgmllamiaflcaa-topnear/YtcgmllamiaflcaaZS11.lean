/- A polynomial that is not nought has fewer roots than coefficients; words of few coefficients are far apart. -/
import Derived.Test.YtcgmllamiaflcaaZH2
import Derived.Test.YtcgmllamiaflcaaZN2
namespace Go.Proofs.Ytcgmllamiaflcaa
open Go.RowKit Go.Sort

/-- How many of the first n. -/
def ct (p : Nat → Bool) : Nat → Nat
  | 0 => 0
  | n + 1 => ct p n + if p n = true then 1 else 0
theorem ct_none {p : Nat → Bool} : ∀ n, (∀ i, i < n → p i = false) → ct p n = 0
  | 0, _ => rfl
  | n + 1, h => by
    show ct p n + (if p n = true then 1 else 0) = 0
    rw [ct_none n (fun i hi => h i (by omega)), h n (by omega)]; rfl
theorem ct_one1 {p p' : Nat → Bool} (i0 : Nat) : ∀ n, (∀ i, i < n → i ≠ i0 → p i = true → p' i = true) → ct p n ≤ ct p' n + if i0 < n then 1 else 0
  | 0, _ => by simp [ct]
  | n + 1, h => by
    show ct p n + (if p n = true then 1 else 0) ≤ ct p' n + (if p' n = true then 1 else 0) + if i0 < n + 1 then 1 else 0
    have ih := ct_one1 i0 n (fun i hi => h i (by omega))
    by_cases e : i0 = n
    · rw [if_neg (by omega)] at ih
      rw [if_pos (show i0 < n + 1 by omega)]
      split <;> split <;> omega
    · have h1 := h n (by omega) (fun x => e x.symm)
      by_cases hp : p n = true
      · rw [if_pos hp, if_pos (h1 hp)]
        by_cases hi : i0 < n
        · rw [if_pos hi] at ih; rw [if_pos (show i0 < n + 1 by omega)]; omega
        · rw [if_neg hi] at ih; split <;> omega
      · rw [if_neg hp]
        by_cases hi : i0 < n
        · rw [if_pos hi] at ih; rw [if_pos (show i0 < n + 1 by omega)]; omega
        · rw [if_neg hi] at ih; omega
theorem ct_not (p : Nat → Bool) : ∀ n, ct p n + ct (fun i => !p i) n = n
  | 0 => rfl
  | n + 1 => by
    show ct p n + (if p n = true then 1 else 0) + (ct (fun i => !p i) n + if (!p n) = true then 1 else 0) = n + 1
    have := ct_not p n
    cases p n <;> simp <;> omega
theorem ev_sub {D : FD} (F : Fld D) {a b : Nat → Nat} (x : Nat) (ha : El D a) (hb : El D b) : ∀ n, D.ev (psub D a b) x n = D.sb (D.ev a x n) (D.ev b x n)
  | 0 => (sb_self F (zero_lt' F)).symm
  | n + 1 => by
    show D.ad (D.ev (psub D a b) x n) (D.mul (D.sb (a n) (b n)) (D.xp x n)) = D.sb (D.ad (D.ev a x n) (D.mul (a n) (D.xp x n))) (D.ad (D.ev b x n) (D.mul (b n) (D.xp x n)))
    rw [ev_sub F x ha hb n, sb_mul F (ha n) (hb n)]
    have h1 := ev_lt F a x n
    have h2 := ev_lt F b x n
    have h3 := F.mul_lt (a n) (D.xp x n)
    have h4 := F.mul_lt (b n) (D.xp x n)
    unfold FD.sb
    rw [ng_ad F h2 h4, ad4 F h1 (ng_lt F h2) h3 (ng_lt F h4)]
/-- X - r. -/
def xmr (D : FD) (r : Nat) : Nat → Nat := fun j => if j = 0 then D.ng r else if j = 1 then 1 else 0
theorem xmr_el {D : FD} (F : Fld D) {r : Nat} (hr : r < D.q) : El D (xmr D r) := fun j => by
  unfold xmr
  split
  · exact ng_lt F hr
  · split
    · exact one_lt' F
    · exact zero_lt' F
theorem xmr_bd {D : FD} (r : Nat) : Bd 2 (xmr D r) := fun j hj => by
  unfold xmr
  rw [if_neg (by omega), if_neg (by omega)]
theorem xmr_ev {D : FD} (F : Fld D) {r x : Nat} (hr : r < D.q) (hx : x < D.q) : D.ev (xmr D r) x 2 = D.sb x r := by
  show D.ad (D.ad 0 (D.mul (D.ng r) 1)) (D.mul 1 (D.mul 1 x)) = D.ad x (D.ng r)
  rw [mul1 F (ng_lt F hr), omul F (F.mul_lt _ _), omul F hx, zero_ad F (ng_lt F hr), ad_comm F]
/-- A root goes out as a factor. -/
theorem root_out {D : FD} (F : Fld D) {d : Nat → Nat} {k r : Nat} (hd : El D d) (hb : Bd (k + 1) d) (hr : r < D.q) (h0 : D.ev d r (k + 1) = 0) : ∃ Q, El D Q ∧ Bd k Q ∧ d = pmul D k Q (xmr D r) := by
  have hi : D.mul (xmr D r 1) 1 = 1 := mul1 F (one_lt' F)
  have h1 := div_is F (b := xmr D r) (l := 1) (inv := 1) k hd
  have hR := divR_bd F (xmr_el F hr) (xmr_bd r) hi k hd hb
  obtain ⟨Q, hQ⟩ : ∃ Q, Q = divQ D (xmr D r) 1 1 k d := ⟨_, rfl⟩
  obtain ⟨R, hRe⟩ : ∃ R, R = divR D (xmr D r) 1 1 k d := ⟨_, rfl⟩
  rw [← hQ, ← hRe] at h1
  rw [← hRe] at hR
  have eQ : El D Q := by rw [hQ]; exact el_divQ F k d
  have bQ : Bd k Q := by rw [hQ]; exact divQ_bd k d
  have eR : El D R := by rw [hRe]; exact el_divR F k hd
  have h2 : D.ev d r (k + 2) = 0 := by rw [ev_from F r hb (by omega)]; exact h0
  rw [← h1, ev_add F r (el_mul F _ _ _) eR, ev_mul F r (xmr_bd r) (xmr_el F hr) k (k + 2) (Nat.le_refl _), xmr_ev F hr hr, sb_self F hr, mul0 F, zero_ad F (ev_lt F _ _ _), ev_from F r hR (by omega)] at h2
  have h3 : R 0 = 0 := by
    have h2 : D.ad 0 (D.mul (R 0) 1) = 0 := h2
    rw [zero_ad F (F.mul_lt _ _), mul1 F (eR 0)] at h2; exact h2
  have h4 : R = pnil := by
    funext j
    cases j with
    | zero => exact h3
    | succ j => exact hR _ (by omega)
  refine ⟨Q, eQ, bQ, ?_⟩
  rw [h4] at h1
  rw [← h1]
  funext j
  exact ad_zero F (el_mul F _ _ _ _)
theorem few_roots {D : FD} (F : Fld D) {xs : Nat → Nat} {n : Nat} (hx : ∀ i, i < n → xs i < D.q) (hne : ∀ i j, i < n → j < n → i ≠ j → xs i ≠ xs j) : ∀ k {d : Nat → Nat}, El D d → Bd k d → d ≠ pnil → ct (fun i => decide (D.ev d (xs i) k = 0)) n < k
  | 0, d, _, hb, h0 => absurd (bd_nil_of hb) h0
  | k + 1, d, hd, hb, h0 => by
    by_cases h : ∃ i, i < n ∧ D.ev d (xs i) (k + 1) = 0
    · obtain ⟨i0, hi0, hr⟩ := h
      obtain ⟨Q, eQ, bQ, hQ⟩ := root_out F hd hb (hx i0 hi0) hr
      have hQ0 : Q ≠ pnil := fun e => h0 (by
        rw [hQ, e]
        funext j
        have : ∀ m, pmul D m pnil (xmr D (xs i0)) j = 0 := fun m => by
          induction m with
          | zero => rfl
          | succ m ih =>
            show D.ad (pmul D m pnil (xmr D (xs i0)) j) (psh m (pscale D 0 (xmr D (xs i0))) j) = 0
            rw [ih]
            unfold psh pscale
            split
            · rw [zmul F, ad_zero F (zero_lt' F)]
            · rw [ad_zero F (zero_lt' F)]
        exact this k)
      have ih := few_roots F hx hne k eQ bQ hQ0
      have h1 := ct_one1 (p := fun i => decide (D.ev d (xs i) (k + 1) = 0)) (p' := fun i => decide (D.ev Q (xs i) k = 0)) i0 n (fun i hi hne' hp => by
        have hp : D.ev d (xs i) (k + 1) = 0 := of_decide_eq_true hp
        refine decide_eq_true ?_
        have h2 : D.ev d (xs i) (k + 2) = 0 := by rw [ev_from F _ hb (by omega)]; exact hp
        rw [hQ, ev_mul F _ (xmr_bd _) (xmr_el F (hx i0 hi0)) k (k + 2) (Nat.le_refl _), xmr_ev F (hx i0 hi0) (hx i hi)] at h2
        by_cases e : D.ev Q (xs i) k = 0
        · exact e
        · exfalso
          have h3 : D.sb (xs i) (xs i0) = 0 := mul_cancel F e (sb_lt F (hx i hi) (hx i0 hi0)) (zero_lt' F) (h2.trans (mul0 F _).symm)
          exact hne i i0 hi hi0 hne' (sb_eq_zero F (hx i hi) (hx i0 hi0) h3))
      rw [if_pos hi0] at h1
      omega
    · rw [ct_none n (fun i hi => decide_eq_false (fun e => h ⟨i, hi, e⟩))]
      omega
/-- Words of two messages of k numbers: apart at more than n - k places. -/
theorem far_apart {D : FD} (F : Fld D) {xs a b : Nat → Nat} {n k : Nat} (hx : ∀ i, i < n → xs i < D.q) (hne : ∀ i j, i < n → j < n → i ≠ j → xs i ≠ xs j) (ha : El D a) (hb : El D b) (hba : Bd k a) (hbb : Bd k b) (h : a ≠ b) : n < k + ct (fun i => !decide (D.ev a (xs i) k = D.ev b (xs i) k)) n := by
  have h1 := few_roots F hx hne k (el_sub F ha hb) (fun j hj => by show D.sb (a j) (b j) = 0; rw [hba j hj, hbb j hj, sb_self F (zero_lt' F)]) (fun e => h (by
    funext j
    exact sb_eq_zero F (ha j) (hb j) (congrFun e j)))
  have h2 := ct_not (fun i => decide (D.ev a (xs i) k = D.ev b (xs i) k)) n
  have e : (fun i => decide (D.ev (psub D a b) (xs i) k = 0)) = fun i => decide (D.ev a (xs i) k = D.ev b (xs i) k) := by
    funext i
    rw [ev_sub F _ ha hb]
    refine decide_eq_decide.2 ⟨fun e => sb_eq_zero F (ev_lt F _ _ _) (ev_lt F _ _ _) e, fun e => by rw [e, sb_self F (ev_lt F _ _ _)]⟩
  rw [e] at h1
  omega
end Go.Proofs.Ytcgmllamiaflcaa
