/- Texts of ours, one behind the other: S4 S5. -/
import Derived.Test.YthmjdcajaoilgakZJ1
import Derived.Test.YthmjdcajaoilgakZL1
import Derived.Test.YthmjdcajaoilgakZX11
/- Plain mathematics: one row for each column in which no row of a reduced form begins (Null). -/
namespace Go.Proofs.Ythmjdcajaoilgak

/-- Of the first c columns, in how many none of the k rows begins. -/
def nct (k : Nat) (p : Nat → Nat) : Nat → Nat
  | 0 => 0
  | c + 1 => if ∀ i, i < k → p i ≠ c then nct k p c + 1 else nct k p c
/-- The i-th of these columns. -/
def fcs (k : Nat) (p : Nat → Nat) : Nat → Nat → Nat
  | 0, _ => 0
  | c + 1, i => if i = nct k p c then c else fcs k p c i
theorem nct_yes {k : Nat} {p : Nat → Nat} {c : Nat} (h : ∀ i, i < k → p i ≠ c) : nct k p (c + 1) = nct k p c + 1 := if_pos h
theorem nct_no {k : Nat} {p : Nat → Nat} {c : Nat} (h : ¬ ∀ i, i < k → p i ≠ c) : nct k p (c + 1) = nct k p c := if_neg h
theorem nct_le (k : Nat) (p : Nat → Nat) : ∀ c, nct k p c ≤ c
  | 0 => Nat.le_refl _
  | c + 1 => by
    have := nct_le k p c
    by_cases h : ∀ i, i < k → p i ≠ c
    · rw [nct_yes h]; omega
    · rw [nct_no h]; omega
theorem fcs_at (k : Nat) (p : Nat → Nat) (c : Nat) : fcs k p (c + 1) (nct k p c) = c := if_pos rfl
theorem fcs_lo {k : Nat} {p : Nat → Nat} {c i : Nat} (h : i < nct k p c) : fcs k p (c + 1) i = fcs k p c i := if_neg (by omega)
theorem fcs_ok {k : Nat} {p : Nat → Nat} : ∀ c i, i < nct k p c → fcs k p c i < c ∧ ∀ j, j < k → p j ≠ fcs k p c i
  | 0, i, hi => absurd hi (by simp [nct])
  | c + 1, i, hi => by
    by_cases h : ∀ i, i < k → p i ≠ c
    · rw [nct_yes h] at hi
      by_cases e : i = nct k p c
      · rw [e, fcs_at]; exact ⟨by omega, h⟩
      · rw [fcs_lo (by omega)]
        have := fcs_ok (k := k) (p := p) c i (by omega)
        exact ⟨Nat.lt_succ_of_lt this.1, this.2⟩
    · rw [nct_no h] at hi
      rw [fcs_lo hi]
      have := fcs_ok (k := k) (p := p) c i hi
      exact ⟨Nat.lt_succ_of_lt this.1, this.2⟩
theorem fcs_mono {k : Nat} {p : Nat → Nat} : ∀ c i j, i < j → j < nct k p c → fcs k p c i < fcs k p c j
  | 0, i, j, _, hj => absurd hj (by simp [nct])
  | c + 1, i, j, hij, hj => by
    by_cases h : ∀ i, i < k → p i ≠ c
    · rw [nct_yes h] at hj
      rw [fcs_lo (i := i) (by omega)]
      by_cases e : j = nct k p c
      · rw [e, fcs_at]; exact (fcs_ok c i (by omega)).1
      · rw [fcs_lo (by omega)]; exact fcs_mono c i j hij (by omega)
    · rw [nct_no h] at hj
      rw [fcs_lo hj, fcs_lo (i := i) (by omega)]; exact fcs_mono c i j hij hj
theorem fcs_inj {k : Nat} {p : Nat → Nat} {c i j : Nat} (hi : i < nct k p c) (hj : j < nct k p c) (h : fcs k p c i = fcs k p c j) : i = j := by
  rcases Nat.lt_trichotomy i j with e | e | e
  · have := fcs_mono c i j e hj; omega
  · exact e
  · have := fcs_mono c j i e hi; omega
/-- The row for column c, the first r of the beginnings filled in. -/
def nrv (D : FD) (R : Nat → Nat → Nat) (p : Nat → Nat) (c : Nat) : Nat → Nat → Nat
  | 0, j => if j = c then 1 else 0
  | r + 1, j => if j = p r then D.ng (R r c) else nrv D R p c r j
theorem nrv_el {D : FD} (F : Fld D) {R : Nat → Nat → Nat} {p : Nat → Nat} {c : Nat} : ∀ r, (∀ i, i < r → El D (R i)) → El D (nrv D R p c r)
  | 0, _ => fun j => by
    show (if j = c then 1 else 0) < D.q
    by_cases e : j = c
    · rw [if_pos e]; exact one_lt' F
    · rw [if_neg e]; exact zero_lt' F
  | r + 1, h => fun j => by
    show (if j = p r then D.ng (R r c) else nrv D R p c r j) < D.q
    by_cases e : j = p r
    · rw [if_pos e]; exact ng_lt F (h r (by omega) c)
    · rw [if_neg e]; exact nrv_el F r (fun i hi => h i (by omega)) j
theorem nrv_bd {D : FD} {R : Nat → Nat → Nat} {p : Nat → Nat} {c n : Nat} (hc : c < n) : ∀ r, (∀ i, i < r → p i < n) → Bd n (nrv D R p c r)
  | 0, _ => fun j hj => by
    show (if j = c then 1 else 0) = 0
    rw [if_neg (by omega)]
  | r + 1, h => fun j hj => by
    show (if j = p r then D.ng (R r c) else nrv D R p c r j) = 0
    rw [if_neg (by have := h r (by omega); omega)]
    exact nrv_bd hc r (fun i hi => h i (by omega)) j hj
theorem nrv_free {D : FD} {R : Nat → Nat → Nat} {p : Nat → Nat} {c j : Nat} : ∀ r, (∀ i, i < r → p i ≠ j) → nrv D R p c r j = if j = c then 1 else 0
  | 0, _ => rfl
  | r + 1, h => by
    show (if j = p r then D.ng (R r c) else nrv D R p c r j) = _
    rw [if_neg (fun e => h r (by omega) e.symm)]
    exact nrv_free r (fun i hi => h i (by omega))
theorem nrv_piv {D : FD} {R : Nat → Nat → Nat} {p : Nat → Nat} {c i : Nat} : ∀ r, (∀ i j, i < j → j < r → p i < p j) → i < r → nrv D R p c r (p i) = D.ng (R i c)
  | 0, _, h => absurd h (by omega)
  | r + 1, hm, hi => by
    show (if p i = p r then D.ng (R r c) else nrv D R p c r (p i)) = _
    by_cases e : i = r
    · rw [e, if_pos rfl]
    · have := hm i r (by omega) (by omega)
      rw [if_neg (by omega)]
      exact nrv_piv r (fun a b h1 h2 => hm a b h1 (by omega)) (by omega)
/-- The rows for the first c columns. -/
def nul (D : FD) (R : Nat → Nat → Nat) (p : Nat → Nat) (k c : Nat) : Nat → Nat → Nat := fun i => nrv D R p (fcs k p c i) k
theorem nul_lo {D : FD} {R : Nat → Nat → Nat} {p : Nat → Nat} {k c i : Nat} (h : i < nct k p c) : nul D R p k (c + 1) i = nul D R p k c i := by
  unfold nul
  rw [fcs_lo h]
theorem nul_at (D : FD) (R : Nat → Nat → Nat) (p : Nat → Nat) (k c : Nat) : nul D R p k (c + 1) (nct k p c) = nrv D R p c k := by
  unfold nul
  rw [fcs_at]
theorem nul_el {D : FD} (F : Fld D) {k : Nat} {R : Nat → Nat → Nat} {p : Nat → Nat} (h : ∀ i, i < k → El D (R i)) (c i : Nat) : El D (nul D R p k c i) := nrv_el F k h
theorem nul_bd {D : FD} {n k : Nat} {R : Nat → Nat → Nat} {p : Nat → Nat} (h : ∀ i, i < k → p i < n) {i : Nat} (hi : i < nct k p n) : Bd n (nul D R p k n i) := nrv_bd (fcs_ok n i hi).1 k h
theorem nul_one {D : FD} {n k : Nat} {R : Nat → Nat → Nat} {p : Nat → Nat} {i j : Nat} (hi : i < nct k p n) (hj : j < nct k p n) : nul D R p k n i (fcs k p n j) = if i = j then 1 else 0 := by
  unfold nul
  rw [nrv_free k (fcs_ok n j hj).2]
  by_cases e : i = j
  · rw [if_pos e, e, if_pos rfl]
  · rw [if_neg e, if_neg (fun h => e (fcs_inj hi hj h.symm))]
/-- None of them is a sum of those ahead. -/
theorem nul_ind {D : FD} (F : Fld D) {n k : Nat} {R : Nat → Nat → Nat} {p : Nat → Nat} {j : Nat} (hj : j < nct k p n) : ¬ Spn D (RowsOf j (nul D R p k n)) (nul D R p k n j) := fun h => by
  have h1 : nul D R p k n j (fcs k p n j) = 0 := by
    refine spn_ind (Q := fun v => v (fcs k p n j) = 0) rfl (fun u v hu hv => ?_) (fun s v hv => ?_) (fun v hv => ?_) h
    · show D.ad (u _) (v _) = 0
      rw [hu, hv, ad_zero F (zero_lt' F)]
    · show D.mul s (v _) = 0
      rw [hv, mul0 F]
    · obtain ⟨i, hi, rfl⟩ := hv
      rw [nul_one (by omega) hj, if_neg (by omega)]
  rw [nul_one hj hj, if_pos rfl] at h1
  omega
theorem nct_congr {k : Nat} {p p' : Nat → Nat} (h : ∀ i, i < k → p i = p' i) : ∀ c, nct k p c = nct k p' c
  | 0 => rfl
  | c + 1 => by
    by_cases e : ∀ i, i < k → p i ≠ c
    · rw [nct_yes e, nct_yes (fun i hi => by rw [← h i hi]; exact e i hi), nct_congr h c]
    · rw [nct_no e, nct_no (fun e' => e (fun i hi => by rw [h i hi]; exact e' i hi)), nct_congr h c]
theorem fcs_congr {k : Nat} {p p' : Nat → Nat} (h : ∀ i, i < k → p i = p' i) : ∀ c i, fcs k p c i = fcs k p' c i
  | 0, _ => rfl
  | c + 1, i => by
    show (if i = nct k p c then c else fcs k p c i) = if i = nct k p' c then c else fcs k p' c i
    rw [nct_congr h c, fcs_congr h c i]
theorem nrv_congr {D : FD} {R R' : Nat → Nat → Nat} {p p' : Nat → Nat} (c : Nat) : ∀ r, (∀ i, i < r → p i = p' i ∧ R i = R' i) → nrv D R p c r = nrv D R' p' c r
  | 0, _ => rfl
  | r + 1, h => by
    funext j
    show (if j = p r then D.ng (R r c) else nrv D R p c r j) = if j = p' r then D.ng (R' r c) else nrv D R' p' c r j
    rw [(h r (by omega)).1, (h r (by omega)).2, nrv_congr c r (fun i hi => h i (by omega))]
theorem nul_congr {D : FD} {k : Nat} {R R' : Nat → Nat → Nat} {p p' : Nat → Nat} (h : ∀ i, i < k → p i = p' i ∧ R i = R' i) (c : Nat) : nul D R p k c = nul D R' p' k c := by
  funext i
  unfold nul
  rw [fcs_congr (fun i hi => (h i hi).1) c i, nrv_congr _ k h]
/-- Of the first c columns, those in which a row begins and the others are all. -/
theorem nct_sum {k : Nat} {p : Nat → Nat} (hm : ∀ i j, i < j → j < k → p i < p j) : ∀ c, ∃ r, r ≤ k ∧ (∀ i, i < k → (i < r ↔ p i < c)) ∧ nct k p c + r = c
  | 0 => ⟨0, Nat.zero_le _, fun i _ => ⟨fun h => absurd h (by omega), fun h => absurd h (by omega)⟩, rfl⟩
  | c + 1 => by
    obtain ⟨r, hr, h1, h2⟩ := nct_sum hm c
    by_cases h : ∀ i, i < k → p i ≠ c
    · refine ⟨r, hr, fun i hi => ?_, by rw [nct_yes h]; omega⟩
      have := h i hi
      have := h1 i hi
      omega
    · have h' : ∃ i, i < k ∧ p i = c := by
        refine Classical.byContradiction fun hn => h fun i hi e => hn ⟨i, hi, e⟩
      obtain ⟨i0, hi0, e0⟩ := h'
      have hge : ¬ i0 < r := fun hlt => by have := (h1 i0 hi0).1 hlt; omega
      have hle : i0 ≤ r := by
        rcases Nat.lt_or_ge r i0 with hl | hl
        · have ha := hm r i0 hl hi0
          have hb := (h1 r (by omega)).2 (by omega)
          omega
        · exact hl
      have he : i0 = r := by omega
      subst he
      refine ⟨i0 + 1, by omega, fun i hi => ⟨fun hl => ?_, fun hl => ?_⟩, by rw [nct_no h]; omega⟩
      · by_cases e : i = i0
        · rw [e]; omega
        · have := (h1 i hi).1 (by omega); omega
      · rcases Nat.lt_or_ge i0 i with hg | hg
        · have := hm i0 i hg hi; omega
        · omega
theorem nct_all {k n : Nat} {p : Nat → Nat} (hm : ∀ i j, i < j → j < k → p i < p j) (hl : ∀ i, i < k → p i < n) : nct k p n + k = n := by
  obtain ⟨r, hr, h1, h2⟩ := nct_sum hm n
  have : r = k := by
    rcases Nat.lt_or_ge r k with e | e
    · have := (h1 r e).2 (hl r e); omega
    · omega
  omega
theorem free_zl {k c : Nat} {p : Nat → Nat} : (c : Int) ∈ zl k (fun j => ((p j : Nat) : Int)) ↔ ¬ ∀ i, i < k → p i ≠ c := by
  rw [zl_mem]
  constructor
  · rintro ⟨j, hj, e⟩ h
    exact h j hj (by omega)
  · intro h
    refine Classical.byContradiction fun hn => h fun i hi e => hn ⟨i, hi, by rw [e]⟩
end Go.Proofs.Ythmjdcajaoilgak

/- Plain mathematics: linear equations (Solve): the rows with what they are to be behind them. -/
namespace Go.Proofs.Ythmjdcajaoilgak

/-- The rows M of n numbers, each with one number more. -/
def aug (n : Nat) (M : Nat → Nat → Nat) (b : Nat → Nat) : Nat → Nat → Nat := fun i j => if j = n then b i else M i j
theorem aug_el {D : FD} {n : Nat} {M : Nat → Nat → Nat} {b : Nat → Nat} {i : Nat} (h : El D (M i)) (hb : b i < D.q) : El D (aug n M b i) := fun j => by
  unfold aug
  by_cases e : j = n
  · rw [if_pos e]; exact hb
  · rw [if_neg e]; exact h j
theorem aug_bd {n : Nat} {M : Nat → Nat → Nat} {b : Nat → Nat} {i : Nat} (h : Bd n (M i)) : Bd (n + 1) (aug n M b i) := fun j hj => by
  unfold aug
  rw [if_neg (by omega)]; exact h j (by omega)
/-- The solution that a reduced form tells, by its first r rows. -/
def slx (R : Nat → Nat → Nat) (p : Nat → Nat) (n : Nat) : Nat → Nat → Nat
  | 0, _ => 0
  | r + 1, j => if j = p r then R r n else slx R p n r j
theorem slx_congr {R R' : Nat → Nat → Nat} {p p' : Nat → Nat} (n : Nat) : ∀ r, (∀ i, i < r → p i = p' i ∧ R i = R' i) → slx R p n r = slx R' p' n r
  | 0, _ => rfl
  | r + 1, h => by
    funext j
    show (if j = p r then R r n else slx R p n r j) = if j = p' r then R' r n else slx R' p' n r j
    rw [(h r (by omega)).1, (h r (by omega)).2, slx_congr n r (fun i hi => h i (by omega))]
/-- Rows reduced but for the last column, and the one form of all: where there is a solution. -/
theorem solve_yes {D : FD} (F : Fld D) {m n k kr : Nat} {R Rr : Nat → Nat → Nat} {p pr : Nat → Nat} (h : Rdg D m (n + 1) n k R p) (h0 : ∀ i, k ≤ i → i < m → R i n = 0) (hr : RRE D (n + 1) kr Rr pr) (hs : ∀ v, Spn D (RowsOf m R) v ↔ Spn D (RowsOf kr Rr) v) : kr = k ∧ (∀ i, i < k → p i = pr i ∧ R i = Rr i) ∧ ∀ i, i < kr → pr i ≠ n := by
  have h1 : Rdg D m (n + 1) (n + 1) k R p := rdg_skip h h0
  obtain ⟨h2, _, h3⟩ := rdg_end F h1
  obtain ⟨hk, he⟩ := rre_uniq F h2 hr (fun v => (h3 v).trans (hs v))
  refine ⟨hk.symm, he, fun i hi => ?_⟩
  have a := (he i (by omega)).1
  have b := h.lt i (by omega)
  omega
theorem solve_no {D : FD} (F : Fld D) {m n k kr : Nat} {R Rr : Nat → Nat → Nat} {p pr : Nat → Nat} (h : Rdg D m (n + 1) n k R p) (h0 : ∃ i, k ≤ i ∧ i < m ∧ R i n ≠ 0) (hr : RRE D (n + 1) kr Rr pr) (hs : ∀ v, Spn D (RowsOf m R) v ↔ Spn D (RowsOf kr Rr) v) : ∃ i, i < kr ∧ pr i = n := by
  obtain ⟨i, h1, h2, h3⟩ := h0
  obtain ⟨j, hj, e⟩ := (rre_lead F hr n).1 ⟨R i, (hs _).1 (spn_mem F (h.el i h2) ⟨i, h2, rfl⟩), h3, fun c hc => h.rest i c h1 h2 hc⟩
  exact ⟨j, hj, e.symm⟩

/-- The first n numbers. -/
def cutN (n : Nat) (v : Nat → Nat) : Nat → Nat := fun j => if j < n then v j else 0
theorem cutN_add {D : FD} (F : Fld D) (n : Nat) (u v : Nat → Nat) : cutN n (padd D u v) = padd D (cutN n u) (cutN n v) := by
  funext j
  show (if j < n then D.ad (u j) (v j) else 0) = D.ad (if j < n then u j else 0) (if j < n then v j else 0)
  by_cases e : j < n
  · rw [if_pos e, if_pos e, if_pos e]
  · rw [if_neg e, if_neg e, if_neg e, ad_zero F (zero_lt' F)]
theorem cutN_scale {D : FD} (F : Fld D) (n s : Nat) (v : Nat → Nat) : cutN n (pscale D s v) = pscale D s (cutN n v) := by
  funext j
  show (if j < n then D.mul s (v j) else 0) = D.mul s (if j < n then v j else 0)
  by_cases e : j < n
  · rw [if_pos e, if_pos e]
  · rw [if_neg e, if_neg e, mul0 F]
theorem cutN_nil (n : Nat) : cutN n pnil = pnil := by
  funext j
  show (if j < n then 0 else 0) = 0
  by_cases e : j < n
  · rw [if_pos e]
  · rw [if_neg e]
theorem cutN_el {D : FD} (F : Fld D) (n : Nat) {v : Nat → Nat} (h : El D v) : El D (cutN n v) := fun j => by
  unfold cutN
  by_cases e : j < n
  · rw [if_pos e]; exact h j
  · rw [if_neg e]; exact zero_lt' F
theorem spn_cut {D : FD} (F : Fld D) {m n : Nat} {R : Nat → Nat → Nat} (he : ∀ i, i < m → El D (R i)) {v : Nat → Nat} (h : Spn D (RowsOf m R) v) : Spn D (RowsOf m fun i => cutN n (R i)) (cutN n v) := by
  refine spn_ind (Q := fun v => Spn D (RowsOf m fun i => cutN n (R i)) (cutN n v)) ?_ (fun u v hu hv => ?_) (fun s v hv => ?_) (fun v hv => ?_) h
  · rw [cutN_nil]; exact spn_nil D _
  · rw [cutN_add F]; exact spn_add F hu hv
  · rw [cutN_scale F]; exact spn_scale F _ hv
  · obtain ⟨i, hi, rfl⟩ := hv
    exact spn_mem F (cutN_el F n (he i hi)) ⟨i, hi, rfl⟩
/-- Rows that span the same, cut, span the same. -/
theorem spn_cut_le {D : FD} (F : Fld D) {m m' n : Nat} {R R' : Nat → Nat → Nat} (he : ∀ i, i < m → El D (R i)) (he' : ∀ i, i < m' → El D (R' i)) (h : ∀ v, Spn D (RowsOf m R) v → Spn D (RowsOf m' R') v) {v : Nat → Nat} (hv : Spn D (RowsOf m fun i => cutN n (R i)) v) : Spn D (RowsOf m' fun i => cutN n (R' i)) v := by
  refine spn_le F (fun u hu => ?_) hv
  obtain ⟨i, hi, rfl⟩ := hu
  exact spn_cut F he' (h _ (spn_mem F (he i hi) ⟨i, hi, rfl⟩))
/-- Rows reduced in their first n columns, cut behind these, are the one form. -/
theorem rdg_cut {D : FD} (F : Fld D) {m n n' k : Nat} {R : Nat → Nat → Nat} {p : Nat → Nat} (h : Rdg D m n' n k R p) : Rdg D m n n k (fun i => cutN n (R i)) p := by
  have at' : ∀ i c, c < n → cutN n (R i) c = R i c := fun i c hc => by unfold cutN; rw [if_pos hc]
  refine ⟨fun i hi => cutN_el F n (h.el i hi), fun i hi c hc => by unfold cutN; rw [if_neg (by omega)], h.le, h.lt, h.mono, fun i hi => ?_, fun i j hi hj hij => ?_, fun i c hi hc => ?_, fun i c hk hi hc => ?_⟩
  · show cutN n (R i) (p i) = 1
    rw [at' i _ (h.lt i hi)]; exact h.one i hi
  · show cutN n (R i) (p j) = 0
    rw [at' i _ (h.lt j hj)]; exact h.zero i j hi hj hij
  · show cutN n (R i) c = 0
    have := h.lt i hi
    rw [at' i _ (by omega)]; exact h.lead i c hi hc
  · show cutN n (R i) c = 0
    rw [at' i _ hc]; exact h.rest i c hk hi hc
/-- The rows with a row of the unit behind each. -/
def augI (n : Nat) (M : Nat → Nat → Nat) : Nat → Nat → Nat := fun i j => if j < n then M i j else if j = n + i then 1 else 0
theorem augI_el {D : FD} (F : Fld D) {n : Nat} {M : Nat → Nat → Nat} {i : Nat} (h : El D (M i)) : El D (augI n M i) := fun j => by
  unfold augI
  by_cases e : j < n
  · rw [if_pos e]; exact h j
  · rw [if_neg e]
    by_cases e2 : j = n + i
    · rw [if_pos e2]; exact one_lt' F
    · rw [if_neg e2]; exact zero_lt' F
theorem augI_bd {n m : Nat} {M : Nat → Nat → Nat} {i : Nat} (hi : i < m) : Bd (n + m) (augI n M i) := fun j hj => by
  unfold augI
  rw [if_neg (by omega), if_neg (by omega)]
theorem augI_cut {n : Nat} {M : Nat → Nat → Nat} {i : Nat} (h : Bd n (M i)) : cutN n (augI n M i) = M i := by
  funext j
  unfold cutN augI
  by_cases e : j < n
  · rw [if_pos e, if_pos e]
  · rw [if_neg e, h j (by omega)]
/-- How many begin in the first n columns: as many as of the rows themselves. -/
theorem inv_rank {D : FD} (F : Fld D) {m n n' k kr : Nat} {R M Rr : Nat → Nat → Nat} {p pr : Nat → Nat} (hM : ∀ i, i < m → El D (M i) ∧ Bd n (M i)) (h : Rdg D m n' n k R p) (hs : ∀ v, Spn D (RowsOf m R) v ↔ Spn D (RowsOf m (augI n M)) v) (hr : RRE D n kr Rr pr) (hsr : ∀ v, Spn D (RowsOf kr Rr) v ↔ Spn D (RowsOf m M) v) : k = kr := by
  obtain ⟨h1, _, h2⟩ := rdg_end F (rdg_cut F h)
  have hel := fun i (hi : i < m) => augI_el F (n := n) (hM i hi).1
  have e : ∀ v, Spn D (RowsOf m fun i => cutN n (augI n M i)) v ↔ Spn D (RowsOf m M) v := fun v => by
    constructor
    · refine fun hv => spn_le F (fun u hu => ?_) hv
      obtain ⟨i, hi, rfl⟩ := hu
      have e2 := augI_cut (hM i hi).2
      show Spn D (RowsOf m M) (cutN n (augI n M i))
      rw [e2]; exact spn_mem F (hM i hi).1 ⟨i, hi, rfl⟩
    · refine fun hv => spn_le F (fun u hu => ?_) hv
      obtain ⟨i, hi, rfl⟩ := hu
      exact spn_mem F (hM i hi).1 ⟨i, hi, (augI_cut (hM i hi).2).symm⟩
  refine (rre_uniq F h1 hr (fun v => (h2 v).trans (Iff.trans ?_ ((e v).trans (hsr v).symm)))).1
  exact ⟨fun hv => spn_cut_le F h.el hel (fun u hu => (hs u).1 hu) hv, fun hv => spn_cut_le F hel h.el (fun u hu => (hs u).2 hu) hv⟩
/-- As many columns as rows begin: then row i begins in column i. -/
theorem mono_id {n : Nat} {p : Nat → Nat} (hm : ∀ i j, i < j → j < n → p i < p j) (hl : ∀ i, i < n → p i < n) : ∀ i, i < n → p i = i := by
  have lo : ∀ i, i < n → i ≤ p i := fun i => by
    induction i with
    | zero => intro _; omega
    | succ i ih =>
      intro hi
      have := hm i (i + 1) (by omega) hi
      have := ih (by omega)
      omega
  have hi : ∀ d i, i + d + 1 = n → p i + d < n := fun d => by
    induction d with
    | zero => intro i hi; exact hl i (by omega)
    | succ d ih =>
      intro i hi
      have := ih (i + 1) (by omega)
      have := hm i (i + 1) (by omega) (by omega)
      omega
  intro i hin
  have a := lo i hin
  have b := hi (n - i - 1) i (by omega)
  omega
/-- The right half is the inverse. -/
theorem minv_is {D : FD} (F : Fld D) {n : Nat} {R M : Nat → Nat → Nat} {p : Nat → Nat} (h : Rdg D n (n + n) n n R p) (hs : ∀ v, Spn D (RowsOf n R) v ↔ Spn D (RowsOf n (augI n M)) v) (hM : ∀ i, i < n → El D (M i)) (i c : Nat) (hi : i < n) : prodR D (M i) (fun i c => R i (n + c)) n c = if c = i then 1 else 0 := by
  have hid := mono_id h.mono h.lt
  have hre : RRE D (n + n) n R p := ⟨h.el, h.bd, fun i hi => by have := h.lt i hi; omega, h.mono, h.one, h.zero, h.lead⟩
  have hv : Spn D (RowsOf n R) (augI n M i) := (hs _).2 (spn_mem F (augI_el F (hM i hi)) ⟨i, hi, rfl⟩)
  have h1 := congrFun (rre_coord F hre hv) (n + c)
  have key : ∀ k, k ≤ n → lcR D R p (augI n M i) k (n + c) = prodR D (M i) (fun i c => R i (n + c)) k c := fun k => by
    induction k with
    | zero => intro _; rfl
    | succ k ih =>
      intro hk
      show D.ad (lcR D R p (augI n M i) k (n + c)) (D.mul (augI n M i (p k)) (R k (n + c))) = D.ad (prodR D (M i) (fun i c => R i (n + c)) k c) (D.mul (M i k) (R k (n + c)))
      rw [ih (by omega), hid k (by omega)]
      have e : augI n M i k = M i k := by unfold augI; rw [if_pos (by omega)]
      rw [e]
  rw [key n (Nat.le_refl _)] at h1
  rw [← h1]
  unfold augI
  rw [if_neg (by omega)]
  by_cases e : c = i
  · rw [if_pos e, if_pos (by omega)]
  · rw [if_neg e, if_neg (by omega)]
end Go.Proofs.Ythmjdcajaoilgak
