/- Texts of ours, one behind the other: S9 S10 S11. -/
import Derived.Test.YthmjdcajaoilgakZH4
import Derived.Test.YthmjdcajaoilgakZS5
import Derived.Test.YthmjdcajaoilgakZN2
/- Equations that can be met, and the rules of shorter length. -/
namespace Go.Proofs.Ythmjdcajaoilgak
open Go.RowKit Go.Sort

/-- The sum of the products, place by place. -/
def dt (D : FD) (u v : Nat → Nat) : Nat → Nat
  | 0 => 0
  | n + 1 => D.ad (dt D u v n) (D.mul (u n) (v n))
theorem dt_lt {D : FD} (F : Fld D) (u v : Nat → Nat) : ∀ n, dt D u v n < D.q
  | 0 => zero_lt' F
  | n + 1 => ad_lt F (dt_lt F u v n) (F.mul_lt _ _)
theorem dt_nil {D : FD} (F : Fld D) (v : Nat → Nat) : ∀ n, dt D pnil v n = 0
  | 0 => rfl
  | n + 1 => by
    show D.ad (dt D pnil v n) (D.mul 0 (v n)) = 0
    rw [dt_nil F v n, zmul F, ad_zero F (zero_lt' F)]
theorem dt_add {D : FD} (F : Fld D) {u u' : Nat → Nat} (v : Nat → Nat) (hu : El D u) (hu' : El D u') : ∀ n, dt D (padd D u u') v n = D.ad (dt D u v n) (dt D u' v n)
  | 0 => (ad_zero F (zero_lt' F)).symm
  | n + 1 => by
    show D.ad (dt D (padd D u u') v n) (D.mul (D.ad (u n) (u' n)) (v n)) = _
    rw [dt_add F v hu hu' n, ad_mul F (hu n) (hu' n), ad4 F (dt_lt F _ _ _) (dt_lt F _ _ _) (F.mul_lt _ _) (F.mul_lt _ _)]
    rfl
theorem dt_scale {D : FD} (F : Fld D) (s : Nat) (u v : Nat → Nat) : ∀ n, dt D (pscale D s u) v n = D.mul s (dt D u v n)
  | 0 => (mul0 F s).symm
  | n + 1 => by
    show D.ad (dt D (pscale D s u) v n) (D.mul (D.mul s (u n)) (v n)) = D.mul s (D.ad (dt D u v n) (D.mul (u n) (v n)))
    rw [dt_scale F s u v n, F.mul_assoc, mul_ad F (dt_lt F _ _ _) (F.mul_lt _ _)]
theorem dt_same {D : FD} {u v v' : Nat → Nat} : ∀ n, (∀ j, j < n → v j = v' j) → dt D u v n = dt D u v' n
  | 0, _ => rfl
  | n + 1, h => by
    show D.ad (dt D u v n) (D.mul (u n) (v n)) = D.ad (dt D u v' n) (D.mul (u n) (v' n))
    rw [dt_same n (fun j hj => h j (by omega)), h n (by omega)]
theorem dt_put {D : FD} (F : Fld D) {u v : Nat → Nat} {a c : Nat} (hv : v a = 0) : ∀ n, a < n → dt D u (fun j => if j = a then c else v j) n = D.ad (dt D u v n) (D.mul (u a) c)
  | 0, h => absurd h (by omega)
  | n + 1, h => by
    show D.ad (dt D u (fun j => if j = a then c else v j) n) (D.mul (u n) (if n = a then c else v n)) = D.ad (D.ad (dt D u v n) (D.mul (u n) (v n))) (D.mul (u a) c)
    by_cases e : n = a
    · subst e
      rw [if_pos rfl, hv, mul0 F, ad_zero F (dt_lt F _ _ _), dt_same n (v' := v) (fun j hj => if_neg (by omega))]
    · rw [if_neg e, dt_put F hv n (by omega), ad_assoc F (dt_lt F _ _ _) (F.mul_lt _ _) (F.mul_lt _ _), ad_assoc F (dt_lt F _ _ _) (F.mul_lt _ _) (F.mul_lt _ _), ad_comm F (D.mul (u a) c)]
theorem slx_none {R : Nat → Nat → Nat} {p : Nat → Nat} {n j : Nat} : ∀ r, (∀ i, i < r → p i ≠ j) → slx R p n r j = 0
  | 0, _ => rfl
  | r + 1, h => by
    show (if j = p r then R r n else slx R p n r j) = 0
    rw [if_neg (fun e => h r (by omega) e.symm), slx_none r (fun i hi => h i (by omega))]
theorem slx_el {D : FD} (F : Fld D) {R : Nat → Nat → Nat} {p : Nat → Nat} {n : Nat} : ∀ r, (∀ i, i < r → El D (R i)) → El D (slx R p n r)
  | 0, _ => fun _ => zero_lt' F
  | r + 1, h => fun j => by
    show (if j = p r then R r n else slx R p n r j) < D.q
    split
    · exact h r (by omega) n
    · exact slx_el F r (fun i hi => h i (by omega)) j
theorem dt_slx {D : FD} (F : Fld D) {n k : Nat} {R : Nat → Nat → Nat} {p : Nat → Nat} (h : RRE D (n + 1) k R p) (hp : ∀ i, i < k → p i ≠ n) (i : Nat) (hi : i < k) : ∀ r, r ≤ k → dt D (R i) (slx R p n r) n = if i < r then R i n else 0
  | 0, _ => by
    rw [if_neg (by omega)]
    have e : ∀ n, dt D (R i) (slx R p n 0) n = 0 := fun n => by
      have : ∀ m, dt D (R i) (slx R p n 0) m = 0 := fun m => by
        induction m with
        | zero => rfl
        | succ m ih =>
          show D.ad (dt D (R i) (slx R p n 0) m) (D.mul (R i m) 0) = 0
          rw [ih, mul0 F, ad_zero F (zero_lt' F)]
      exact this n
    exact e n
  | r + 1, hr => by
    have hpr : p r < n := by have := h.lt r (by omega); have := hp r (by omega); omega
    have e := dt_put F (u := R i) (v := slx R p n r) (a := p r) (c := R r n) (slx_none r (fun j hj => by have := h.mono j r hj (by omega); omega)) n hpr
    have e2 : slx R p n (r + 1) = fun j => if j = p r then R r n else slx R p n r j := rfl
    rw [e2, e, dt_slx F h hp i hi r (by omega)]
    by_cases e3 : i = r
    · subst e3
      rw [if_neg (by omega), if_pos (by omega), h.one i hi, omul F (h.el i hi n), zero_ad F (h.el i hi n)]
    · rw [h.zero i r hi (by omega) e3, zmul F]
      by_cases e4 : i < r
      · rw [if_pos e4, if_pos (by omega), ad_zero F (h.el i hi n)]
      · rw [if_neg e4, if_neg (by omega), ad_zero F (zero_lt' F)]
/-- What the reduced equations say is a solution. -/
theorem slx_solves {D : FD} (F : Fld D) {m n k : Nat} {R M : Nat → Nat → Nat} {p b : Nat → Nat} (h : RRE D (n + 1) k R p) (hp : ∀ i, i < k → p i ≠ n) (hel : ∀ i, i < m → El D (M i)) (hb : ∀ i, i < m → b i < D.q) (hs : ∀ v, Spn D (RowsOf k R) v ↔ Spn D (RowsOf m (aug n M b)) v) (i : Nat) (hi : i < m) : dt D (M i) (slx R p n k) n = b i := by
  have h1 : Spn D (RowsOf k R) (aug n M b i) := (hs _).2 (spn_mem F (aug_el (hel i hi) (hb i hi)) ⟨i, hi, rfl⟩)
  have h2 : El D (aug n M b i) ∧ dt D (aug n M b i) (slx R p n k) n = aug n M b i n := by
    refine spn_ind (Q := fun v => El D v ∧ dt D v (slx R p n k) n = v n) ⟨el_nil F, dt_nil F _ _⟩ ?_ ?_ ?_ h1
    · rintro u v ⟨a1, a2⟩ ⟨b1, b2⟩
      refine ⟨el_add F a1 b1, ?_⟩
      rw [dt_add F _ a1 b1, a2, b2]; rfl
    · rintro s v ⟨a1, a2⟩
      refine ⟨el_scale F _ _, ?_⟩
      rw [dt_scale F, a2]; rfl
    · rintro v ⟨j, hj, rfl⟩
      refine ⟨h.el j hj, ?_⟩
      rw [dt_slx F h hp j hj k (Nat.le_refl _), if_pos hj]
  have h3 := h2.2
  have e1 : ∀ r, r ≤ n → dt D (aug n M b i) (slx R p n k) r = dt D (M i) (slx R p n k) r := fun r => by
    induction r with
    | zero => intro _; rfl
    | succ r ih =>
      intro hr
      show D.ad (dt D (aug n M b i) (slx R p n k) r) (D.mul (aug n M b i r) _) = D.ad (dt D (M i) (slx R p n k) r) (D.mul (M i r) _)
      rw [ih (by omega)]
      have : aug n M b i r = M i r := if_neg (by omega)
      rw [this]
  rw [e1 n (Nat.le_refl _)] at h3
  rw [h3]
  exact if_pos rfl
/-- A rule from its numbers behind the first one. -/
def rulx (n : Nat) (x : Nat → Nat) : Nat → Nat := fun j => if j = 0 then 1 else if j ≤ n then x (j - 1) else 0
theorem rulx_rul {D : FD} (F : Fld D) (n : Nat) {x : Nat → Nat} (hx : El D x) : Rul D (rulx n x) n := by
  refine ⟨fun j => ?_, fun j hj => ?_, rfl⟩
  · unfold rulx
    split
    · exact one_lt' F
    · split
      · exact hx _
      · exact zero_lt' F
  · unfold rulx
    rw [if_neg (by omega), if_neg (by omega)]
theorem rulx_mul {D : FD} (F : Fld D) {n t : Nat} {x s : Nat → Nat} (hs : El D s) (ht : n ≤ t) : ∀ r, r ≤ n → pmul D (r + 1) (rulx n x) s t = D.ad (s t) (dt D (fun j => s (t - 1 - j)) x r)
  | 0, _ => by
    show D.ad 0 (psh 0 (pscale D 1 s) t) = D.ad (s t) 0
    unfold psh pscale
    rw [if_pos (by omega), Nat.sub_zero, omul F (hs t), zero_ad F (hs t), ad_zero F (hs t)]
  | r + 1, hr => by
    show D.ad (pmul D (r + 1) (rulx n x) s t) (psh (r + 1) (pscale D (rulx n x (r + 1)) s) t) = D.ad (s t) (D.ad (dt D (fun j => s (t - 1 - j)) x r) (D.mul (s (t - 1 - r)) (x r)))
    rw [rulx_mul F hs ht r (by omega), ad_assoc F (hs t) (dt_lt F _ _ _) (by unfold psh pscale; split; exact F.mul_lt _ _; exact zero_lt' F)]
    congr 1
    congr 1
    unfold psh pscale rulx
    rw [if_pos (by omega), if_neg (by omega), if_pos (by omega), F.mul_comm, Nat.add_sub_cancel, show t - (r + 1) = t - 1 - r from by omega]
/-- The equations of the rules of length n have no solution, if each rule is longer. -/
theorem short_no {D : FD} (F : Fld D) {N n L k : Nat} {s : Nat → Nat} {R : Nat → Nat → Nat} {p : Nat → Nat} (hs : El D s) (hmin : ∀ C' L', Rul D C' L' → Gen D s C' L' N → L ≤ L') (hn : n < L) (h : RRE D (n + 1) k R p)
    (hsp : ∀ v, Spn D (RowsOf k R) v ↔ Spn D (RowsOf (N - n) (aug n (fun i => cutN n fun j => s (n + i - 1 - j)) fun i => D.ng (s (n + i)))) v) : ¬ ∀ i, i < k → p i ≠ n := fun hp => by
  have hx : El D (slx R p n k) := slx_el F k h.el
  have h1 := hmin _ n (rulx_rul F n hx) (fun t h1 h2 => by
    rw [rulx_mul F hs h1 n (Nat.le_refl _)]
    have h3 := slx_solves F h hp (fun i _ => fun j => by unfold cutN; split; exact hs _; exact zero_lt' F) (fun i _ => ng_lt F (hs _)) hsp (t - n) (by omega)
    have h4 : ∀ r, r ≤ n → dt D (fun j => s (t - 1 - j)) (slx R p n k) r = dt D (cutN n fun j => s (n + (t - n) - 1 - j)) (slx R p n k) r := fun r => by
      induction r with
      | zero => intro _; rfl
      | succ r ih =>
        intro hr
        show D.ad (dt D (fun j => s (t - 1 - j)) (slx R p n k) r) (D.mul (s (t - 1 - r)) _) = D.ad (dt D (cutN n fun j => s (n + (t - n) - 1 - j)) (slx R p n k) r) (D.mul (cutN n (fun j => s (n + (t - n) - 1 - j)) r) _)
        rw [ih (by omega)]
        have e5 : cutN n (fun j => s (n + (t - n) - 1 - j)) r = s (t - 1 - r) := by
          unfold cutN
          rw [if_pos (by omega)]
          show s (n + (t - n) - 1 - r) = _
          rw [show n + (t - n) - 1 - r = t - 1 - r from by omega]
        rw [e5]
    rw [h4 n (Nat.le_refl _), h3, show n + (t - n) = t from by omega]
    exact ad_ng F (hs t))
  omega
/-- A rule of length 0 holds for noughts alone. -/
theorem short_zero {D : FD} (F : Fld D) {N L : Nat} {s : Nat → Nat} (hmin : ∀ C' L', Rul D C' L' → Gen D s C' L' N → L ≤ L') (hL : 0 < L) : ∃ i, i < N ∧ s i ≠ 0 := by
  by_cases h : ∃ i, i < N ∧ s i ≠ 0
  · exact h
  · have h1 := hmin pone 0 ⟨el_one F, fun k hk => by unfold pone; rw [if_neg (by omega)], rfl⟩ (fun t _ h2 => by
      have e : s t = 0 := by
        by_cases e : s t = 0
        · exact e
        · exact absurd ⟨t, h2, e⟩ h
      show D.ad 0 (psh 0 (pscale D 1 s) t) = 0
      unfold psh pscale
      rw [if_pos (by omega), Nat.sub_zero, e, mul0 F, ad_zero F (zero_lt' F)])
    omega
end Go.Proofs.Ythmjdcajaoilgak

/- Lists that a rule makes: the shortest rule of enough of them makes the rest. -/
namespace Go.Proofs.Ythmjdcajaoilgak
open Go.RowKit Go.Sort

theorem ng_ad {D : FD} (F : Fld D) {a b : Nat} (ha : a < D.q) (hb : b < D.q) : D.ng (D.ad a b) = D.ad (D.ng a) (D.ng b) := by
  have h1 : D.ad (D.ad a b) (D.ad (D.ng a) (D.ng b)) = 0 := by
    rw [ad4 F ha hb (ng_lt F ha) (ng_lt F hb), ad_ng F ha, ad_ng F hb, ad_zero F (zero_lt' F)]
  exact (ad_cancel F (ad_lt F ha hb) (ad_lt F (ng_lt F ha) (ng_lt F hb)) (ng_lt F (ad_lt F ha hb)) (h1.trans (ad_ng F (ad_lt F ha hb)).symm)).symm
theorem sb_ad2 {D : FD} (F : Fld D) {a b c : Nat} (ha : a < D.q) (hb : b < D.q) (hc : c < D.q) : D.sb a (D.ad b c) = D.sb (D.sb a b) c := by
  unfold FD.sb
  rw [ng_ad F hb hc, ad_assoc F ha (ng_lt F hb) (ng_lt F hc)]
theorem dt_ng {D : FD} (F : Fld D) (u : Nat → Nat) {x : Nat → Nat} (hx : El D x) : ∀ n, dt D u (fun j => D.ng (x j)) n = D.ng (dt D u x n)
  | 0 => (ng_zero F).symm
  | n + 1 => by
    show D.ad (dt D u (fun j => D.ng (x j)) n) (D.mul (u n) (D.ng (x n))) = D.ng (D.ad (dt D u x n) (D.mul (u n) (x n)))
    rw [dt_ng F u hx n, mul_ng F (hx n), ng_ad F (dt_lt F _ _ _) (F.mul_lt _ _)]
theorem dt_comm {D : FD} (F : Fld D) (u v : Nat → Nat) : ∀ n, dt D u v n = dt D v u n
  | 0 => rfl
  | n + 1 => by
    show D.ad (dt D u v n) (D.mul (u n) (v n)) = D.ad (dt D v u n) (D.mul (v n) (u n))
    rw [dt_comm F u v n, F.mul_comm]
/-- Each number from the place n on is that sum of those ahead. -/
def Made (D : FD) (c : Nat → Nat) (n : Nat) (s : Nat → Nat) (N : Nat) : Prop := ∀ t, n ≤ t → t < N → s t = dt D c (fun k => s (t - 1 - k)) n
theorem made_gen {D : FD} (F : Fld D) {c s : Nat → Nat} {n N : Nat} (hc : El D c) (hs : El D s) (h : Made D c n s N) : Gen D s (rulx n fun k => D.ng (c k)) n N := fun t h1 h2 => by
  rw [rulx_mul F hs h1 n (Nat.le_refl _), dt_ng F _ hc, dt_comm F, ← h t h1 h2]
  exact ad_ng F (hs t)
theorem pmul_low {D : FD} {C s s' : Nat → Nat} {t : Nat} (h : ∀ j, j ≤ t → s j = s' j) : ∀ n, pmul D n C s t = pmul D n C s' t
  | 0 => rfl
  | n + 1 => by
    show D.ad (pmul D n C s t) (psh n (pscale D (C n) s) t) = D.ad (pmul D n C s' t) (psh n (pscale D (C n) s') t)
    rw [pmul_low h n]
    unfold psh pscale
    split
    · rw [h (t - n) (by omega)]
    · rfl
theorem gen_low {D : FD} {C s s' : Nat → Nat} {L N : Nat} (h : ∀ j, j < N → s j = s' j) (hg : Gen D s C L N) : Gen D s' C L N := fun t h1 h2 => by
  rw [← pmul_low (s := s) (fun j hj => h j (by omega))]; exact hg t h1 h2
theorem gen_more {D : FD} (F : Fld D) {s C C' : Nat → Nat} {L L' N : Nat} (hs : El D s) (hC : Rul D C L) (hC' : Rul D C' L') (h : Gen D s C L N) (hL : L + L' ≤ N) : ∀ k, Gen D s C' L' (N + k) → Gen D s C L (N + k)
  | 0, _ => h
  | k + 1, h' => fun t h1 h2 => by
    have ih := gen_more F hs hC hC' h hL k (gen_less h')
    by_cases e : t = N + k
    · rw [e]; exact massey F hs hC hC' ih h' (by omega)
    · exact ih t h1 (by omega)
/-- The shortest rule of 2 n numbers and more, made by a rule of length n, is no longer than n, and makes those behind, too. -/
theorem bms_made {D : FD} (hD : D ∈ fieldsL) {c y C O : Nat → Nat} {n N lc L lo b k : Nat} (hc : El D c) (hy : El D y) (h : BMS D (fun j => if j < N then y j else 0) N C lc L O lo b) (hm : Made D c n y (N + k)) (hN : 2 * n ≤ N) : L ≤ n ∧ Gen D y C L (N + k) := by
  have F := fld hD
  have hr : Rul D (rulx n fun k => D.ng (c k)) n := rulx_rul F n (fun j => ng_lt F (hc j))
  have hg := made_gen F hc hy hm
  have hlow : ∀ j, j < N → y j = (fun j => if j < N then y j else 0) j := fun j hj => (if_pos hj).symm
  have hL := h.min _ n hr (gen_low hlow (fun t h1 h2 => hg t h1 (by omega)))
  exact ⟨hL, gen_more F hy h.rul hr (gen_low (fun j hj => (hlow j hj).symm) h.gen) (by omega) k hg⟩
end Go.Proofs.Ythmjdcajaoilgak

/- A polynomial that is not nought has fewer roots than coefficients; words of few coefficients are far apart. -/
namespace Go.Proofs.Ythmjdcajaoilgak
open Go.RowKit Go.Sort

/-- How many of the first n. -/
def ct (p : Nat → Bool) : Nat → Nat
  | 0 => 0
  | n + 1 => ct p n + if p n = true then 1 else 0
theorem ct_none {p : Nat → Bool} : ∀ n, (∀ i, i < n → p i = false) → ct p n = 0
  | 0, _ => rfl
  | n + 1, h => by
    show ct p n + (if p n = true then 1 else 0) = 0
    rw [ct_none n (fun i hi => h i (by omega)), h n (by omega)]; rfl
theorem ct_one1 {p p' : Nat → Bool} (i0 : Nat) : ∀ n, (∀ i, i < n → i ≠ i0 → p i = true → p' i = true) → ct p n ≤ ct p' n + if i0 < n then 1 else 0
  | 0, _ => by simp [ct]
  | n + 1, h => by
    show ct p n + (if p n = true then 1 else 0) ≤ ct p' n + (if p' n = true then 1 else 0) + if i0 < n + 1 then 1 else 0
    have ih := ct_one1 i0 n (fun i hi => h i (by omega))
    by_cases e : i0 = n
    · rw [if_neg (by omega)] at ih
      rw [if_pos (show i0 < n + 1 by omega)]
      split <;> split <;> omega
    · have h1 := h n (by omega) (fun x => e x.symm)
      by_cases hp : p n = true
      · rw [if_pos hp, if_pos (h1 hp)]
        by_cases hi : i0 < n
        · rw [if_pos hi] at ih; rw [if_pos (show i0 < n + 1 by omega)]; omega
        · rw [if_neg hi] at ih; split <;> omega
      · rw [if_neg hp]
        by_cases hi : i0 < n
        · rw [if_pos hi] at ih; rw [if_pos (show i0 < n + 1 by omega)]; omega
        · rw [if_neg hi] at ih; omega
theorem ct_not (p : Nat → Bool) : ∀ n, ct p n + ct (fun i => !p i) n = n
  | 0 => rfl
  | n + 1 => by
    show ct p n + (if p n = true then 1 else 0) + (ct (fun i => !p i) n + if (!p n) = true then 1 else 0) = n + 1
    have := ct_not p n
    cases p n <;> simp <;> omega
theorem ev_sub {D : FD} (F : Fld D) {a b : Nat → Nat} (x : Nat) (ha : El D a) (hb : El D b) : ∀ n, D.ev (psub D a b) x n = D.sb (D.ev a x n) (D.ev b x n)
  | 0 => (sb_self F (zero_lt' F)).symm
  | n + 1 => by
    show D.ad (D.ev (psub D a b) x n) (D.mul (D.sb (a n) (b n)) (D.xp x n)) = D.sb (D.ad (D.ev a x n) (D.mul (a n) (D.xp x n))) (D.ad (D.ev b x n) (D.mul (b n) (D.xp x n)))
    rw [ev_sub F x ha hb n, sb_mul F (ha n) (hb n)]
    have h1 := ev_lt F a x n
    have h2 := ev_lt F b x n
    have h3 := F.mul_lt (a n) (D.xp x n)
    have h4 := F.mul_lt (b n) (D.xp x n)
    unfold FD.sb
    rw [ng_ad F h2 h4, ad4 F h1 (ng_lt F h2) h3 (ng_lt F h4)]
/-- X - r. -/
def xmr (D : FD) (r : Nat) : Nat → Nat := fun j => if j = 0 then D.ng r else if j = 1 then 1 else 0
theorem xmr_el {D : FD} (F : Fld D) {r : Nat} (hr : r < D.q) : El D (xmr D r) := fun j => by
  unfold xmr
  split
  · exact ng_lt F hr
  · split
    · exact one_lt' F
    · exact zero_lt' F
theorem xmr_bd {D : FD} (r : Nat) : Bd 2 (xmr D r) := fun j hj => by
  unfold xmr
  rw [if_neg (by omega), if_neg (by omega)]
theorem xmr_ev {D : FD} (F : Fld D) {r x : Nat} (hr : r < D.q) (hx : x < D.q) : D.ev (xmr D r) x 2 = D.sb x r := by
  show D.ad (D.ad 0 (D.mul (D.ng r) 1)) (D.mul 1 (D.mul 1 x)) = D.ad x (D.ng r)
  rw [mul1 F (ng_lt F hr), omul F (F.mul_lt _ _), omul F hx, zero_ad F (ng_lt F hr), ad_comm F]
/-- A root goes out as a factor. -/
theorem root_out {D : FD} (F : Fld D) {d : Nat → Nat} {k r : Nat} (hd : El D d) (hb : Bd (k + 1) d) (hr : r < D.q) (h0 : D.ev d r (k + 1) = 0) : ∃ Q, El D Q ∧ Bd k Q ∧ d = pmul D k Q (xmr D r) := by
  have hi : D.mul (xmr D r 1) 1 = 1 := mul1 F (one_lt' F)
  have h1 := div_is F (b := xmr D r) (l := 1) (inv := 1) k hd
  have hR := divR_bd F (xmr_el F hr) (xmr_bd r) hi k hd hb
  obtain ⟨Q, hQ⟩ : ∃ Q, Q = divQ D (xmr D r) 1 1 k d := ⟨_, rfl⟩
  obtain ⟨R, hRe⟩ : ∃ R, R = divR D (xmr D r) 1 1 k d := ⟨_, rfl⟩
  rw [← hQ, ← hRe] at h1
  rw [← hRe] at hR
  have eQ : El D Q := by rw [hQ]; exact el_divQ F k d
  have bQ : Bd k Q := by rw [hQ]; exact divQ_bd k d
  have eR : El D R := by rw [hRe]; exact el_divR F k hd
  have h2 : D.ev d r (k + 2) = 0 := by rw [ev_from F r hb (by omega)]; exact h0
  rw [← h1, ev_add F r (el_mul F _ _ _) eR, ev_mul F r (xmr_bd r) (xmr_el F hr) k (k + 2) (Nat.le_refl _), xmr_ev F hr hr, sb_self F hr, mul0 F, zero_ad F (ev_lt F _ _ _), ev_from F r hR (by omega)] at h2
  have h3 : R 0 = 0 := by
    have h2 : D.ad 0 (D.mul (R 0) 1) = 0 := h2
    rw [zero_ad F (F.mul_lt _ _), mul1 F (eR 0)] at h2; exact h2
  have h4 : R = pnil := by
    funext j
    cases j with
    | zero => exact h3
    | succ j => exact hR _ (by omega)
  refine ⟨Q, eQ, bQ, ?_⟩
  rw [h4] at h1
  rw [← h1]
  funext j
  exact ad_zero F (el_mul F _ _ _ _)
theorem few_roots {D : FD} (F : Fld D) {xs : Nat → Nat} {n : Nat} (hx : ∀ i, i < n → xs i < D.q) (hne : ∀ i j, i < n → j < n → i ≠ j → xs i ≠ xs j) : ∀ k {d : Nat → Nat}, El D d → Bd k d → d ≠ pnil → ct (fun i => decide (D.ev d (xs i) k = 0)) n < k
  | 0, d, _, hb, h0 => absurd (bd_nil_of hb) h0
  | k + 1, d, hd, hb, h0 => by
    by_cases h : ∃ i, i < n ∧ D.ev d (xs i) (k + 1) = 0
    · obtain ⟨i0, hi0, hr⟩ := h
      obtain ⟨Q, eQ, bQ, hQ⟩ := root_out F hd hb (hx i0 hi0) hr
      have hQ0 : Q ≠ pnil := fun e => h0 (by
        rw [hQ, e]
        funext j
        have : ∀ m, pmul D m pnil (xmr D (xs i0)) j = 0 := fun m => by
          induction m with
          | zero => rfl
          | succ m ih =>
            show D.ad (pmul D m pnil (xmr D (xs i0)) j) (psh m (pscale D 0 (xmr D (xs i0))) j) = 0
            rw [ih]
            unfold psh pscale
            split
            · rw [zmul F, ad_zero F (zero_lt' F)]
            · rw [ad_zero F (zero_lt' F)]
        exact this k)
      have ih := few_roots F hx hne k eQ bQ hQ0
      have h1 := ct_one1 (p := fun i => decide (D.ev d (xs i) (k + 1) = 0)) (p' := fun i => decide (D.ev Q (xs i) k = 0)) i0 n (fun i hi hne' hp => by
        have hp : D.ev d (xs i) (k + 1) = 0 := of_decide_eq_true hp
        refine decide_eq_true ?_
        have h2 : D.ev d (xs i) (k + 2) = 0 := by rw [ev_from F _ hb (by omega)]; exact hp
        rw [hQ, ev_mul F _ (xmr_bd _) (xmr_el F (hx i0 hi0)) k (k + 2) (Nat.le_refl _), xmr_ev F (hx i0 hi0) (hx i hi)] at h2
        by_cases e : D.ev Q (xs i) k = 0
        · exact e
        · exfalso
          have h3 : D.sb (xs i) (xs i0) = 0 := mul_cancel F e (sb_lt F (hx i hi) (hx i0 hi0)) (zero_lt' F) (h2.trans (mul0 F _).symm)
          exact hne i i0 hi hi0 hne' (sb_eq_zero F (hx i hi) (hx i0 hi0) h3))
      rw [if_pos hi0] at h1
      omega
    · rw [ct_none n (fun i hi => decide_eq_false (fun e => h ⟨i, hi, e⟩))]
      omega
/-- Words of two messages of k numbers: apart at more than n - k places. -/
theorem far_apart {D : FD} (F : Fld D) {xs a b : Nat → Nat} {n k : Nat} (hx : ∀ i, i < n → xs i < D.q) (hne : ∀ i j, i < n → j < n → i ≠ j → xs i ≠ xs j) (ha : El D a) (hb : El D b) (hba : Bd k a) (hbb : Bd k b) (h : a ≠ b) : n < k + ct (fun i => !decide (D.ev a (xs i) k = D.ev b (xs i) k)) n := by
  have h1 := few_roots F hx hne k (el_sub F ha hb) (fun j hj => by show D.sb (a j) (b j) = 0; rw [hba j hj, hbb j hj, sb_self F (zero_lt' F)]) (fun e => h (by
    funext j
    exact sb_eq_zero F (ha j) (hb j) (congrFun e j)))
  have h2 := ct_not (fun i => decide (D.ev a (xs i) k = D.ev b (xs i) k)) n
  have e : (fun i => decide (D.ev (psub D a b) (xs i) k = 0)) = fun i => decide (D.ev a (xs i) k = D.ev b (xs i) k) := by
    funext i
    rw [ev_sub F _ ha hb]
    refine decide_eq_decide.2 ⟨fun e => sb_eq_zero F (ev_lt F _ _ _) (ev_lt F _ _ _) e, fun e => by rw [e, sb_self F (ev_lt F _ _ _)]⟩
  rw [e] at h1
  omega
end Go.Proofs.Ythmjdcajaoilgak
