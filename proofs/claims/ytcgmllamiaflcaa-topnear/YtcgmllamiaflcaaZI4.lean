/- Texts of ours, one behind the other: I4 S12 S13 S23. -/
import Derived.Test.YtcgmllamiaflcaaZQ6
import Derived.Test.YtcgmllamiaflcaaZX18
import Derived.Test.YtcgmllamiaflcaaZS4
import Derived.Test.YtcgmllamiaflcaaZS11
/- Codes: one form, and the dual (the program's oneForm, unit, dual). -/
namespace Go.Proofs.Ytcgmllamiaflcaa
open Go.RowKit Go.Sort

theorem MV.mono {B B' : Nat} {v : Value} {k n : Nat} {R : Nat → Nat → Nat} {w : World} (h : MV B v k n R w) (hB : B' ≤ B) : MV B' v k n R w := by
  rcases h with h | ⟨G, mc, m, hh, ev, hm⟩
  · exact Or.inl h
  · exact Or.inr ⟨G, mc, m, hh, ev, hm.mono hB⟩
theorem Mx.less {B G m k j n : Nat} {R : Nat → Nat → Nat} {h : Nat → Nat} {w : World} (H : Mx B G m k n R h w) (hj : j ≤ k) : Mx B G m j n R h w := by
  obtain ⟨f, hf, hf'⟩ := H.outer
  exact ⟨⟨f, hf, fun i hi => hf' i (by omega)⟩, fun i hi => H.row i (by omega), H.geG, fun i hi => H.ge i (by omega), fun i hi j hj => H.inj i (by omega) j (by omega), fun i hi => H.ne i (by omega), by have := H.le; omega⟩

end Go.Proofs.Ytcgmllamiaflcaa

/- Plain mathematics: products of rows; what makes rows 0. No Go text here. -/
namespace Go.Proofs.Ytcgmllamiaflcaa

/-- The sum of the products of the first numbers of two lists. -/
def dot (D : FD) (a b : Nat → Nat) : Nat → Nat
  | 0 => 0
  | j + 1 => D.ad (dot D a b j) (D.mul (a j) (b j))
theorem dot_lt {D : FD} (F : Fld D) (a b : Nat → Nat) : ∀ j, dot D a b j < D.q
  | 0 => zero_lt' F
  | j + 1 => ad_lt F (dot_lt F a b j) (F.mul_lt _ _)
theorem dot_comm {D : FD} (F : Fld D) (a b : Nat → Nat) : ∀ n, dot D a b n = dot D b a n
  | 0 => rfl
  | n + 1 => by
    show D.ad (dot D a b n) (D.mul (a n) (b n)) = D.ad (dot D b a n) (D.mul (b n) (a n))
    rw [dot_comm F a b n, F.mul_comm (a n)]
theorem dot_nil {D : FD} (F : Fld D) (v : Nat → Nat) : ∀ n, dot D pnil v n = 0
  | 0 => rfl
  | n + 1 => by
    show D.ad (dot D pnil v n) (D.mul 0 (v n)) = 0
    rw [dot_nil F v n, zmul F, ad_zero F (zero_lt' F)]
theorem dot_add {D : FD} (F : Fld D) {a b : Nat → Nat} (ha : El D a) (hb : El D b) (v : Nat → Nat) : ∀ n, dot D (padd D a b) v n = D.ad (dot D a v n) (dot D b v n)
  | 0 => (ad_zero F (zero_lt' F)).symm
  | n + 1 => by
    show D.ad (dot D (padd D a b) v n) (D.mul (D.ad (a n) (b n)) (v n)) = D.ad (D.ad (dot D a v n) (D.mul (a n) (v n))) (D.ad (dot D b v n) (D.mul (b n) (v n)))
    rw [dot_add F ha hb v n, ad_mul F (ha n) (hb n), ad4 F (dot_lt F _ _ _) (dot_lt F _ _ _) (F.mul_lt _ _) (F.mul_lt _ _)]
theorem dot_scale {D : FD} (F : Fld D) (s : Nat) (a v : Nat → Nat) : ∀ n, dot D (pscale D s a) v n = D.mul s (dot D a v n)
  | 0 => (mul0 F s).symm
  | n + 1 => by
    show D.ad (dot D (pscale D s a) v n) (D.mul (D.mul s (a n)) (v n)) = D.mul s (D.ad (dot D a v n) (D.mul (a n) (v n)))
    rw [dot_scale F s a v n, mul_ad F (dot_lt F _ _ _) (F.mul_lt _ _), F.mul_assoc]
/-- What makes rows 0 makes all 0 that they span. -/
theorem dot_spn {D : FD} (F : Fld D) {P : (Nat → Nat) → Prop} {u x : Nat → Nat} {n : Nat} (h : Spn D P u) (hP : ∀ v, P v → dot D v x n = 0) : dot D u x n = 0 := by
  obtain ⟨l, hl, rfl⟩ := h
  induction l with
  | nil => exact dot_nil F x n
  | cons y l ih =>
    show dot D (padd D (pscale D y.1 y.2) (lsum D l)) x n = 0
    rw [dot_add F (el_scale F _ _) (lsum_el F l), dot_scale F, hP _ (hl y (List.mem_cons_self ..)), mul0 F, ih (fun z hz => hl z (List.mem_cons_of_mem _ hz)), ad_zero F (zero_lt' F)]
theorem dot_congr {D : FD} {a a' b b' : Nat → Nat} : ∀ n, (∀ j, j < n → a j = a' j ∧ b j = b' j) → dot D a b n = dot D a' b' n
  | 0, _ => rfl
  | n + 1, h => by
    show D.ad (dot D a b n) (D.mul (a n) (b n)) = D.ad (dot D a' b' n) (D.mul (a' n) (b' n))
    rw [dot_congr n (fun j hj => h j (by omega)), (h n (by omega)).1, (h n (by omega)).2]
/-- A number put where 0 was. -/
theorem dot_put {D : FD} (F : Fld D) {a b : Nat → Nat} {j v : Nat} (hb : b j = 0) : ∀ n, j < n → dot D a (fun t => if t = j then v else b t) n = D.ad (dot D a b n) (D.mul (a j) v)
  | 0, h => absurd h (by omega)
  | n + 1, h => by
    show D.ad (dot D a (fun t => if t = j then v else b t) n) (D.mul (a n) (if n = j then v else b n)) = D.ad (D.ad (dot D a b n) (D.mul (a n) (b n))) (D.mul (a j) v)
    by_cases e : n = j
    · subst e
      rw [if_pos rfl, hb, mul0 F, ad_zero F (dot_lt F _ _ _), dot_congr (a' := a) (b' := b) n (fun t ht => ⟨rfl, if_neg (by omega)⟩)]
    · rw [if_neg e, dot_put F hb n (by omega), ad_assoc F (dot_lt F _ _ _) (F.mul_lt _ _) (F.mul_lt _ _), ad_comm F (D.mul (a j) v), ← ad_assoc F (dot_lt F _ _ _) (F.mul_lt _ _) (F.mul_lt _ _)]
theorem dot_unit {D : FD} (F : Fld D) {a : Nat → Nat} {c n : Nat} (ha : a c < D.q) (hc : c < n) : dot D a (fun t => if t = c then 1 else 0) n = a c := by
  have h := dot_put F (a := a) (b := pnil) (j := c) (v := 1) rfl n hc
  rw [mul1 F ha, dot_comm F a pnil, dot_nil F, zero_ad F ha] at h
  exact h
end Go.Proofs.Ytcgmllamiaflcaa

/- Plain mathematics: what makes rows 0 is what the null rows span; the dual of the dual. No Go text here. -/
namespace Go.Proofs.Ytcgmllamiaflcaa

theorem dot_nrv {D : FD} (F : Fld D) {n k : Nat} {R : Nat → Nat → Nat} {p : Nat → Nat} (h : RRE D n k R p) {i c : Nat} (hi : i < k) (hc : c < n) (hf : ∀ j, j < k → p j ≠ c) : ∀ r, r ≤ k → dot D (R i) (nrv D R p c r) n = if i < r then 0 else R i c
  | 0, _ => by rw [if_neg (by omega)]; exact dot_unit F (h.el i hi c) hc
  | r + 1, hr => by
    have e : nrv D R p c (r + 1) = fun t => if t = p r then D.ng (R r c) else nrv D R p c r t := rfl
    have h0 : nrv D R p c r (p r) = 0 := by
      rw [nrv_free r (fun j hj e => by have := h.mono j r hj (by omega); omega), if_neg (hf r (by omega))]
    rw [e, dot_put F h0 n (h.lt r (by omega)), dot_nrv F h hi hc hf r (by omega)]
    by_cases e2 : i = r
    · subst e2
      rw [if_neg (by omega), if_pos (by omega), h.one i hi, omul F (ng_lt F (h.el i hi c)), ad_ng F (h.el i hi c)]
    · rw [h.zero i r hi (by omega) e2, zmul F]
      by_cases e3 : i < r
      · rw [if_pos e3, if_pos (by omega), ad_zero F (zero_lt' F)]
      · rw [if_neg e3, if_neg (by omega), ad_zero F (h.el i hi c)]
theorem nul_orth {D : FD} (F : Fld D) {n k : Nat} {R : Nat → Nat → Nat} {p : Nat → Nat} (h : RRE D n k R p) {i j : Nat} (hi : i < k) (hj : j < nct k p n) : dot D (R i) (nul D R p k n j) n = 0 := by
  have h1 := fcs_ok n j hj
  have h2 := dot_nrv F h hi h1.1 h1.2 k (Nat.le_refl _)
  rw [if_pos hi] at h2
  exact h2
end Go.Proofs.Ytcgmllamiaflcaa

/- Plain mathematics: sets that are great and meet little are few (Johnson). No Go text here. -/
namespace Go.Proofs.Ytcgmllamiaflcaa

/-- The sum of the first n. -/
def jsm (f : Nat → Nat) : Nat → Nat
  | 0 => 0
  | n + 1 => jsm f n + f n
theorem jsm_congr {f g : Nat → Nat} : ∀ n, (∀ i, i < n → f i = g i) → jsm f n = jsm g n
  | 0, _ => rfl
  | n + 1, h => by
    show jsm f n + f n = jsm g n + g n
    rw [jsm_congr n (fun i hi => h i (by omega)), h n (by omega)]
theorem jsm_zero : ∀ n, jsm (fun _ => 0) n = 0
  | 0 => rfl
  | n + 1 => by show jsm (fun _ => 0) n + 0 = 0; rw [jsm_zero n]
theorem jsm_add (f g : Nat → Nat) : ∀ n, jsm (fun i => f i + g i) n = jsm f n + jsm g n
  | 0 => rfl
  | n + 1 => by
    show jsm (fun i => f i + g i) n + (f n + g n) = jsm f n + f n + (jsm g n + g n)
    rw [jsm_add f g n]; omega
theorem jsm_swap (f : Nat → Nat → Nat) (n : Nat) : ∀ L, jsm (fun i => jsm (fun l => f l i) L) n = jsm (fun l => jsm (fun i => f l i) n) L
  | 0 => jsm_zero n
  | L + 1 => by
    show jsm (fun i => jsm (fun l => f l i) L + f L i) n = jsm (fun l => jsm (fun i => f l i) n) L + jsm (fun i => f L i) n
    rw [jsm_add, jsm_swap f n L]
theorem jsm_left (f : Nat → Nat) (c : Nat) : ∀ n, c * jsm f n = jsm (fun i => c * f i) n
  | 0 => Nat.mul_zero c
  | n + 1 => by
    show c * (jsm f n + f n) = jsm (fun i => c * f i) n + c * f n
    rw [Nat.mul_add, jsm_left f c n]
theorem jsm_mul (f g : Nat → Nat) (M : Nat) : ∀ L, jsm f L * jsm g M = jsm (fun l => jsm (fun m => f l * g m) M) L
  | 0 => Nat.zero_mul _
  | L + 1 => by
    show (jsm f L + f L) * jsm g M = jsm (fun l => jsm (fun m => f l * g m) M) L + jsm (fun m => f L * g m) M
    rw [Nat.add_mul, jsm_mul f g M L, jsm_left]
theorem jsm_le {f g : Nat → Nat} : ∀ n, (∀ i, i < n → f i ≤ g i) → jsm f n ≤ jsm g n
  | 0, _ => Nat.le_refl _
  | n + 1, h => by
    have h1 := jsm_le n (fun i hi => h i (by omega))
    have h2 := h n (by omega)
    show jsm f n + f n ≤ jsm g n + g n
    omega
theorem jsm_const (c : Nat) : ∀ n, jsm (fun _ => c) n = n * c
  | 0 => (Nat.zero_mul c).symm
  | n + 1 => by
    show jsm (fun _ => c) n + c = _
    rw [jsm_const c n, Nat.add_mul, Nat.one_mul]
theorem jsm_most {f : Nat → Nat} {c : Nat} (n : Nat) (h : ∀ i, i < n → f i ≤ c) : jsm f n ≤ n * c := by
  rw [← jsm_const c n]; exact jsm_le n h
/-- All but one are small. -/
theorem jsm_diag {f : Nat → Nat} {t c l : Nat} (ht : f l ≤ t) : ∀ L, (∀ m, m < L → m ≠ l → f m ≤ c) → (l < L → jsm f L ≤ t + (L - 1) * c) ∧ (¬ l < L → jsm f L ≤ L * c)
  | 0, _ => ⟨fun h => absurd h (by omega), fun _ => Nat.zero_le _⟩
  | L + 1, h => by
    have ih := jsm_diag ht L (fun m hm hne => h m (by omega) hne)
    refine ⟨fun hl => ?_, fun hl => ?_⟩
    · show jsm f L + f L ≤ t + (L + 1 - 1) * c
      by_cases e : l = L
      · have h1 := ih.2 (by omega)
        rw [e] at ht
        rw [Nat.add_sub_cancel]
        omega
      · have h1 := ih.1 (by omega)
        have h2 := h L (by omega) (fun e2 => e e2.symm)
        have h3 : (L + 1 - 1) * c = (L - 1) * c + c := by
          rw [Nat.add_sub_cancel]
          obtain ⟨M, rfl⟩ : ∃ M, L = M + 1 := ⟨L - 1, by omega⟩
          rw [Nat.add_sub_cancel, Nat.add_mul, Nat.one_mul]
        omega
    · have h1 := ih.2 (by omega)
      have h2 := h L (by omega) (by omega)
      show jsm f L + f L ≤ (L + 1) * c
      rw [Nat.add_mul, Nat.one_mul]
      omega
theorem two_sq (a b : Nat) : 2 * (a * b) ≤ a * a + b * b := by
  by_cases h : a ≤ b
  · obtain ⟨d, rfl⟩ : ∃ d, b = a + d := ⟨b - a, by omega⟩
    have : (a + d) * (a + d) = a * a + 2 * (a * d) + d * d := by rw [Nat.mul_add, Nat.add_mul, Nat.add_mul, Nat.mul_comm d a]; omega
    rw [this, Nat.mul_add]
    omega
  · obtain ⟨d, rfl⟩ : ∃ d, a = b + d := ⟨a - b, by omega⟩
    have : (b + d) * (b + d) = b * b + 2 * (b * d) + d * d := by rw [Nat.mul_add, Nat.add_mul, Nat.add_mul, Nat.mul_comm d b]; omega
    rw [this, Nat.add_mul, Nat.mul_comm d b]
    omega
/-- The square of a sum. -/
theorem jsm_sq (a : Nat → Nat) : ∀ n, jsm a n * jsm a n ≤ n * jsm (fun i => a i * a i) n
  | 0 => Nat.le_refl _
  | n + 1 => by
    have ih := jsm_sq a n
    obtain ⟨S, hS⟩ : ∃ S, S = jsm a n := ⟨_, rfl⟩
    obtain ⟨Q, hQ⟩ : ∃ Q, Q = jsm (fun i => a i * a i) n := ⟨_, rfl⟩
    obtain ⟨x, hx⟩ : ∃ x, x = a n := ⟨_, rfl⟩
    rw [← hS, ← hQ] at ih
    show (jsm a n + a n) * (jsm a n + a n) ≤ (n + 1) * (jsm (fun i => a i * a i) n + a n * a n)
    rw [← hS, ← hQ, ← hx]
    have h1 : 2 * (S * x) ≤ Q + n * (x * x) := by
      by_cases h0 : n = 0
      · have : S = 0 := by rw [hS, h0]; rfl
        rw [this, Nat.zero_mul]; omega
      · refine Nat.le_of_mul_le_mul_left (c := n) ?_ (by omega)
        have h2 := two_sq S (n * x)
        have e1 : n * (2 * (S * x)) = 2 * (S * (n * x)) := by
          rw [Nat.mul_left_comm, Nat.mul_left_comm n S x]
        have e2 : n * (Q + n * (x * x)) = n * Q + n * x * (n * x) := by
          rw [Nat.mul_add, ← Nat.mul_assoc n n, Nat.mul_mul_mul_comm n x n x]
        rw [e1, e2]
        omega
    have h3 : (S + x) * (S + x) = S * S + 2 * (S * x) + x * x := by rw [Nat.mul_add, Nat.add_mul, Nat.add_mul, Nat.mul_comm x S]; omega
    rw [h3, Nat.add_mul, Nat.mul_add n, Nat.one_mul]
    omega
theorem ct_jsm (p : Nat → Bool) : ∀ n, ct p n = jsm (fun i => if p i = true then 1 else 0) n
  | 0 => rfl
  | n + 1 => by
    show _ = jsm _ n + if p n = true then 1 else 0
    rw [← ct_jsm p n]; rfl
/-- The first t of what a set holds. -/
def fst (p : Nat → Bool) (t : Nat) : Nat → Bool := fun i => p i && decide (ct p i < t)
theorem ct_fst (p : Nat → Bool) (t : Nat) : ∀ n, ct (fst p t) n = min (ct p n) t
  | 0 => (Nat.zero_min t).symm
  | n + 1 => by
    have ih := ct_fst p t n
    show ct (fst p t) n + (if fst p t n = true then 1 else 0) = min (ct p n + if p n = true then 1 else 0) t
    rw [ih]
    unfold fst
    cases p n
    · simp
    · by_cases h : ct p n < t
      · simp [h]; omega
      · simp [h]; omega
theorem ct_mono {p p' : Nat → Bool} : ∀ n, (∀ i, i < n → p i = true → p' i = true) → ct p n ≤ ct p' n
  | 0, _ => Nat.le_refl _
  | n + 1, h => by
    have h1 := ct_mono n (fun i hi => h i (by omega))
    have h2 := h n (by omega)
    show ct p n + (if p n = true then 1 else 0) ≤ ct p' n + if p' n = true then 1 else 0
    by_cases e : p n = true
    · rw [if_pos e, if_pos (h2 e)]; omega
    · rw [if_neg e]; omega
/-- Johnson: sets of t of n, two of which have c in common at most, are few. -/
theorem johnson {n t c L : Nat} {B : Nat → Nat → Bool} (ht : ∀ l, l < L → t ≤ ct (B l) n) (hc : ∀ l m, l < L → m < L → l ≠ m → ct (fun i => B l i && B m i) n ≤ c) (htn : t ≤ n) (hj : n * c < t * t) : (L : Int) * ((t : Int) * t - (n : Int) * c) ≤ (n : Int) * ((t : Int) - c) := by
  have hct : c < t := by
    refine Nat.lt_of_not_le fun h => ?_
    have : t * t ≤ n * c := Nat.mul_le_mul htn h
    omega
  obtain ⟨b, hb⟩ : ∃ b : Nat → Nat → Nat, b = fun l i => if fst (B l) t i = true then 1 else 0 := ⟨_, rfl⟩
  have h1 : ∀ l, l < L → jsm (b l) n = t := fun l hl => by
    rw [hb]
    show jsm (fun i => if fst (B l) t i = true then 1 else 0) n = t
    rw [← ct_jsm, ct_fst]
    have := ht l hl
    omega
  have h2 : ∀ l m, l < L → m < L → l ≠ m → jsm (fun i => b l i * b m i) n ≤ c := fun l m hl hm hne => by
    refine Nat.le_trans ?_ (hc l m hl hm hne)
    rw [ct_jsm]
    refine jsm_le n fun i _ => ?_
    rw [hb]
    show (if fst (B l) t i = true then 1 else 0) * (if fst (B m) t i = true then 1 else 0) ≤ _
    unfold fst
    cases B l i <;> cases B m i <;> simp
    split <;> simp
    split <;> simp
  have h3 : ∀ l, l < L → jsm (fun i => b l i * b l i) n = t := fun l hl => by
    rw [← h1 l hl]
    refine jsm_congr n fun i _ => ?_
    rw [hb]
    show (if fst (B l) t i = true then 1 else 0) * (if fst (B l) t i = true then 1 else 0) = if fst (B l) t i = true then 1 else 0
    split <;> rfl
  obtain ⟨a, ha⟩ : ∃ a : Nat → Nat, a = fun i => jsm (fun l => b l i) L := ⟨_, rfl⟩
  have s1 : jsm a n = L * t := by
    rw [ha, jsm_swap b n L, ← jsm_const t L]
    exact jsm_congr L fun l hl => h1 l hl
  have s2 : jsm (fun i => a i * a i) n ≤ L * (t + (L - 1) * c) := by
    have e : jsm (fun i => a i * a i) n = jsm (fun l => jsm (fun m => jsm (fun i => b l i * b m i) n) L) L := by
      have e1 : jsm (fun i => a i * a i) n = jsm (fun i => jsm (fun l => jsm (fun m => b l i * b m i) L) L) n := by
        refine jsm_congr n fun i _ => ?_
        rw [ha]
        exact jsm_mul _ _ L L
      rw [e1, jsm_swap (fun l i => jsm (fun m => b l i * b m i) L) n L]
      refine jsm_congr L fun l _ => ?_
      exact jsm_swap (fun m i => b l i * b m i) n L
    rw [e]
    refine jsm_most L fun l hl => ?_
    exact (jsm_diag (f := fun m => jsm (fun i => b l i * b m i) n) (l := l) (Nat.le_of_eq (h3 l hl)) L (fun m hm hne => h2 l m hl hm (fun e => hne e.symm))).1 hl
  have s3 := jsm_sq a n
  rw [s1] at s3
  have s4 : L * t * (L * t) ≤ n * (L * (t + (L - 1) * c)) := Nat.le_trans s3 (Nat.mul_le_mul_left n s2)
  by_cases hL : L = 0
  · subst hL
    have h5 : (0 : Int) ≤ (n : Int) * ((t : Int) - c) := Int.mul_nonneg (by omega) (by omega)
    simpa using h5
  · have s5 : L * (t * t) ≤ n * (t + (L - 1) * c) := by
      refine Nat.le_of_mul_le_mul_left (c := L) ?_ (by omega)
      rw [Nat.mul_mul_mul_comm L t L t, Nat.mul_assoc L L] at s4
      rw [Nat.mul_left_comm L n]
      exact s4
    obtain ⟨M, rfl⟩ : ∃ M, L = M + 1 := ⟨L - 1, by omega⟩
    rw [Nat.add_sub_cancel] at s5
    have s6 : (((M + 1) * (t * t) : Nat) : Int) ≤ ((n * (t + M * c) : Nat) : Int) := Int.ofNat_le.2 s5
    have e1 : (((M + 1) * (t * t) : Nat) : Int) = (((M : Int) + 1)) * ((t : Int) * t) := by simp
    have e2 : ((n * (t + M * c) : Nat) : Int) = (n : Int) * t + (M : Int) * ((n : Int) * c) := by
      simp [Int.mul_add]
      rw [Int.mul_left_comm]
    rw [e1, e2] at s6
    have e3 : (((M + 1 : Nat)) : Int) * ((t : Int) * t - (n : Int) * c) = ((M : Int) + 1) * ((t : Int) * t) - ((M : Int) * ((n : Int) * c) + (n : Int) * c) := by
      rw [show ((M + 1 : Nat) : Int) = (M : Int) + 1 by omega, Int.mul_sub, Int.add_mul (M : Int) 1 ((n : Int) * c), Int.one_mul]
    have e4 : (n : Int) * ((t : Int) - c) = (n : Int) * t - (n : Int) * c := Int.mul_sub _ _ _
    rw [e3, e4]
    omega
end Go.Proofs.Ytcgmllamiaflcaa
