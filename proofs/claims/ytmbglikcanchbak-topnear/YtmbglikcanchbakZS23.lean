/- Texts of ours, one behind the other: S23 S24. -/
import Derived.Test.YtmbglikcanchbakZY5
import Derived.Test.YtmbglikcanchbakZI3
import Derived.Test.YtmbglikcanchbakZQ6
import Derived.Test.YtmbglikcanchbakZL12
/- Plain mathematics: sets that are great and meet little are few (Johnson). No Go text here. -/
namespace Go.Proofs.Ytmbglikcanchbak

/-- The sum of the first n. -/
def jsm (f : Nat → Nat) : Nat → Nat
  | 0 => 0
  | n + 1 => jsm f n + f n
theorem jsm_congr {f g : Nat → Nat} : ∀ n, (∀ i, i < n → f i = g i) → jsm f n = jsm g n
  | 0, _ => rfl
  | n + 1, h => by
    show jsm f n + f n = jsm g n + g n
    rw [jsm_congr n (fun i hi => h i (by omega)), h n (by omega)]
theorem jsm_zero : ∀ n, jsm (fun _ => 0) n = 0
  | 0 => rfl
  | n + 1 => by show jsm (fun _ => 0) n + 0 = 0; rw [jsm_zero n]
theorem jsm_add (f g : Nat → Nat) : ∀ n, jsm (fun i => f i + g i) n = jsm f n + jsm g n
  | 0 => rfl
  | n + 1 => by
    show jsm (fun i => f i + g i) n + (f n + g n) = jsm f n + f n + (jsm g n + g n)
    rw [jsm_add f g n]; omega
theorem jsm_swap (f : Nat → Nat → Nat) (n : Nat) : ∀ L, jsm (fun i => jsm (fun l => f l i) L) n = jsm (fun l => jsm (fun i => f l i) n) L
  | 0 => jsm_zero n
  | L + 1 => by
    show jsm (fun i => jsm (fun l => f l i) L + f L i) n = jsm (fun l => jsm (fun i => f l i) n) L + jsm (fun i => f L i) n
    rw [jsm_add, jsm_swap f n L]
theorem jsm_left (f : Nat → Nat) (c : Nat) : ∀ n, c * jsm f n = jsm (fun i => c * f i) n
  | 0 => Nat.mul_zero c
  | n + 1 => by
    show c * (jsm f n + f n) = jsm (fun i => c * f i) n + c * f n
    rw [Nat.mul_add, jsm_left f c n]
theorem jsm_mul (f g : Nat → Nat) (M : Nat) : ∀ L, jsm f L * jsm g M = jsm (fun l => jsm (fun m => f l * g m) M) L
  | 0 => Nat.zero_mul _
  | L + 1 => by
    show (jsm f L + f L) * jsm g M = jsm (fun l => jsm (fun m => f l * g m) M) L + jsm (fun m => f L * g m) M
    rw [Nat.add_mul, jsm_mul f g M L, jsm_left]
theorem jsm_le {f g : Nat → Nat} : ∀ n, (∀ i, i < n → f i ≤ g i) → jsm f n ≤ jsm g n
  | 0, _ => Nat.le_refl _
  | n + 1, h => by
    have h1 := jsm_le n (fun i hi => h i (by omega))
    have h2 := h n (by omega)
    show jsm f n + f n ≤ jsm g n + g n
    omega
theorem jsm_const (c : Nat) : ∀ n, jsm (fun _ => c) n = n * c
  | 0 => (Nat.zero_mul c).symm
  | n + 1 => by
    show jsm (fun _ => c) n + c = _
    rw [jsm_const c n, Nat.add_mul, Nat.one_mul]
theorem jsm_most {f : Nat → Nat} {c : Nat} (n : Nat) (h : ∀ i, i < n → f i ≤ c) : jsm f n ≤ n * c := by
  rw [← jsm_const c n]; exact jsm_le n h
/-- All but one are small. -/
theorem jsm_diag {f : Nat → Nat} {t c l : Nat} (ht : f l ≤ t) : ∀ L, (∀ m, m < L → m ≠ l → f m ≤ c) → (l < L → jsm f L ≤ t + (L - 1) * c) ∧ (¬ l < L → jsm f L ≤ L * c)
  | 0, _ => ⟨fun h => absurd h (by omega), fun _ => Nat.zero_le _⟩
  | L + 1, h => by
    have ih := jsm_diag ht L (fun m hm hne => h m (by omega) hne)
    refine ⟨fun hl => ?_, fun hl => ?_⟩
    · show jsm f L + f L ≤ t + (L + 1 - 1) * c
      by_cases e : l = L
      · have h1 := ih.2 (by omega)
        rw [e] at ht
        rw [Nat.add_sub_cancel]
        omega
      · have h1 := ih.1 (by omega)
        have h2 := h L (by omega) (fun e2 => e e2.symm)
        have h3 : (L + 1 - 1) * c = (L - 1) * c + c := by
          rw [Nat.add_sub_cancel]
          obtain ⟨M, rfl⟩ : ∃ M, L = M + 1 := ⟨L - 1, by omega⟩
          rw [Nat.add_sub_cancel, Nat.add_mul, Nat.one_mul]
        omega
    · have h1 := ih.2 (by omega)
      have h2 := h L (by omega) (by omega)
      show jsm f L + f L ≤ (L + 1) * c
      rw [Nat.add_mul, Nat.one_mul]
      omega
theorem two_sq (a b : Nat) : 2 * (a * b) ≤ a * a + b * b := by
  by_cases h : a ≤ b
  · obtain ⟨d, rfl⟩ : ∃ d, b = a + d := ⟨b - a, by omega⟩
    have : (a + d) * (a + d) = a * a + 2 * (a * d) + d * d := by rw [Nat.mul_add, Nat.add_mul, Nat.add_mul, Nat.mul_comm d a]; omega
    rw [this, Nat.mul_add]
    omega
  · obtain ⟨d, rfl⟩ : ∃ d, a = b + d := ⟨a - b, by omega⟩
    have : (b + d) * (b + d) = b * b + 2 * (b * d) + d * d := by rw [Nat.mul_add, Nat.add_mul, Nat.add_mul, Nat.mul_comm d b]; omega
    rw [this, Nat.add_mul, Nat.mul_comm d b]
    omega
/-- The square of a sum. -/
theorem jsm_sq (a : Nat → Nat) : ∀ n, jsm a n * jsm a n ≤ n * jsm (fun i => a i * a i) n
  | 0 => Nat.le_refl _
  | n + 1 => by
    have ih := jsm_sq a n
    obtain ⟨S, hS⟩ : ∃ S, S = jsm a n := ⟨_, rfl⟩
    obtain ⟨Q, hQ⟩ : ∃ Q, Q = jsm (fun i => a i * a i) n := ⟨_, rfl⟩
    obtain ⟨x, hx⟩ : ∃ x, x = a n := ⟨_, rfl⟩
    rw [← hS, ← hQ] at ih
    show (jsm a n + a n) * (jsm a n + a n) ≤ (n + 1) * (jsm (fun i => a i * a i) n + a n * a n)
    rw [← hS, ← hQ, ← hx]
    have h1 : 2 * (S * x) ≤ Q + n * (x * x) := by
      by_cases h0 : n = 0
      · have : S = 0 := by rw [hS, h0]; rfl
        rw [this, Nat.zero_mul]; omega
      · refine Nat.le_of_mul_le_mul_left (c := n) ?_ (by omega)
        have h2 := two_sq S (n * x)
        have e1 : n * (2 * (S * x)) = 2 * (S * (n * x)) := by
          rw [Nat.mul_left_comm, Nat.mul_left_comm n S x]
        have e2 : n * (Q + n * (x * x)) = n * Q + n * x * (n * x) := by
          rw [Nat.mul_add, ← Nat.mul_assoc n n, Nat.mul_mul_mul_comm n x n x]
        rw [e1, e2]
        omega
    have h3 : (S + x) * (S + x) = S * S + 2 * (S * x) + x * x := by rw [Nat.mul_add, Nat.add_mul, Nat.add_mul, Nat.mul_comm x S]; omega
    rw [h3, Nat.add_mul, Nat.mul_add n, Nat.one_mul]
    omega
theorem ct_jsm (p : Nat → Bool) : ∀ n, ct p n = jsm (fun i => if p i = true then 1 else 0) n
  | 0 => rfl
  | n + 1 => by
    show _ = jsm _ n + if p n = true then 1 else 0
    rw [← ct_jsm p n]; rfl
/-- The first t of what a set holds. -/
def fst (p : Nat → Bool) (t : Nat) : Nat → Bool := fun i => p i && decide (ct p i < t)
theorem ct_fst (p : Nat → Bool) (t : Nat) : ∀ n, ct (fst p t) n = min (ct p n) t
  | 0 => (Nat.zero_min t).symm
  | n + 1 => by
    have ih := ct_fst p t n
    show ct (fst p t) n + (if fst p t n = true then 1 else 0) = min (ct p n + if p n = true then 1 else 0) t
    rw [ih]
    unfold fst
    cases p n
    · simp
    · by_cases h : ct p n < t
      · simp [h]; omega
      · simp [h]; omega
theorem ct_mono {p p' : Nat → Bool} : ∀ n, (∀ i, i < n → p i = true → p' i = true) → ct p n ≤ ct p' n
  | 0, _ => Nat.le_refl _
  | n + 1, h => by
    have h1 := ct_mono n (fun i hi => h i (by omega))
    have h2 := h n (by omega)
    show ct p n + (if p n = true then 1 else 0) ≤ ct p' n + if p' n = true then 1 else 0
    by_cases e : p n = true
    · rw [if_pos e, if_pos (h2 e)]; omega
    · rw [if_neg e]; omega
/-- Johnson: sets of t of n, two of which have c in common at most, are few. -/
theorem johnson {n t c L : Nat} {B : Nat → Nat → Bool} (ht : ∀ l, l < L → t ≤ ct (B l) n) (hc : ∀ l m, l < L → m < L → l ≠ m → ct (fun i => B l i && B m i) n ≤ c) (htn : t ≤ n) (hj : n * c < t * t) : (L : Int) * ((t : Int) * t - (n : Int) * c) ≤ (n : Int) * ((t : Int) - c) := by
  have hct : c < t := by
    refine Nat.lt_of_not_le fun h => ?_
    have : t * t ≤ n * c := Nat.mul_le_mul htn h
    omega
  obtain ⟨b, hb⟩ : ∃ b : Nat → Nat → Nat, b = fun l i => if fst (B l) t i = true then 1 else 0 := ⟨_, rfl⟩
  have h1 : ∀ l, l < L → jsm (b l) n = t := fun l hl => by
    rw [hb]
    show jsm (fun i => if fst (B l) t i = true then 1 else 0) n = t
    rw [← ct_jsm, ct_fst]
    have := ht l hl
    omega
  have h2 : ∀ l m, l < L → m < L → l ≠ m → jsm (fun i => b l i * b m i) n ≤ c := fun l m hl hm hne => by
    refine Nat.le_trans ?_ (hc l m hl hm hne)
    rw [ct_jsm]
    refine jsm_le n fun i _ => ?_
    rw [hb]
    show (if fst (B l) t i = true then 1 else 0) * (if fst (B m) t i = true then 1 else 0) ≤ _
    unfold fst
    cases B l i <;> cases B m i <;> simp
    split <;> simp
    split <;> simp
  have h3 : ∀ l, l < L → jsm (fun i => b l i * b l i) n = t := fun l hl => by
    rw [← h1 l hl]
    refine jsm_congr n fun i _ => ?_
    rw [hb]
    show (if fst (B l) t i = true then 1 else 0) * (if fst (B l) t i = true then 1 else 0) = if fst (B l) t i = true then 1 else 0
    split <;> rfl
  obtain ⟨a, ha⟩ : ∃ a : Nat → Nat, a = fun i => jsm (fun l => b l i) L := ⟨_, rfl⟩
  have s1 : jsm a n = L * t := by
    rw [ha, jsm_swap b n L, ← jsm_const t L]
    exact jsm_congr L fun l hl => h1 l hl
  have s2 : jsm (fun i => a i * a i) n ≤ L * (t + (L - 1) * c) := by
    have e : jsm (fun i => a i * a i) n = jsm (fun l => jsm (fun m => jsm (fun i => b l i * b m i) n) L) L := by
      have e1 : jsm (fun i => a i * a i) n = jsm (fun i => jsm (fun l => jsm (fun m => b l i * b m i) L) L) n := by
        refine jsm_congr n fun i _ => ?_
        rw [ha]
        exact jsm_mul _ _ L L
      rw [e1, jsm_swap (fun l i => jsm (fun m => b l i * b m i) L) n L]
      refine jsm_congr L fun l _ => ?_
      exact jsm_swap (fun m i => b l i * b m i) n L
    rw [e]
    refine jsm_most L fun l hl => ?_
    exact (jsm_diag (f := fun m => jsm (fun i => b l i * b m i) n) (l := l) (Nat.le_of_eq (h3 l hl)) L (fun m hm hne => h2 l m hl hm (fun e => hne e.symm))).1 hl
  have s3 := jsm_sq a n
  rw [s1] at s3
  have s4 : L * t * (L * t) ≤ n * (L * (t + (L - 1) * c)) := Nat.le_trans s3 (Nat.mul_le_mul_left n s2)
  by_cases hL : L = 0
  · subst hL
    have h5 : (0 : Int) ≤ (n : Int) * ((t : Int) - c) := Int.mul_nonneg (by omega) (by omega)
    simpa using h5
  · have s5 : L * (t * t) ≤ n * (t + (L - 1) * c) := by
      refine Nat.le_of_mul_le_mul_left (c := L) ?_ (by omega)
      rw [Nat.mul_mul_mul_comm L t L t, Nat.mul_assoc L L] at s4
      rw [Nat.mul_left_comm L n]
      exact s4
    obtain ⟨M, rfl⟩ : ∃ M, L = M + 1 := ⟨L - 1, by omega⟩
    rw [Nat.add_sub_cancel] at s5
    have s6 : (((M + 1) * (t * t) : Nat) : Int) ≤ ((n * (t + M * c) : Nat) : Int) := Int.ofNat_le.2 s5
    have e1 : (((M + 1) * (t * t) : Nat) : Int) = (((M : Int) + 1)) * ((t : Int) * t) := by simp
    have e2 : ((n * (t + M * c) : Nat) : Int) = (n : Int) * t + (M : Int) * ((n : Int) * c) := by
      simp [Int.mul_add]
      rw [Int.mul_left_comm]
    rw [e1, e2] at s6
    have e3 : (((M + 1 : Nat)) : Int) * ((t : Int) * t - (n : Int) * c) = ((M : Int) + 1) * ((t : Int) * t) - ((M : Int) * ((n : Int) * c) + (n : Int) * c) := by
      rw [show ((M + 1 : Nat) : Int) = (M : Int) + 1 by omega, Int.mul_sub, Int.add_mul (M : Int) 1 ((n : Int) * c), Int.one_mul]
    have e4 : (n : Int) * ((t : Int) - c) = (n : Int) * t - (n : Int) * c := Int.mul_sub _ _ _
    rw [e3, e4]
    omega
end Go.Proofs.Ytmbglikcanchbak

/- Plain mathematics of Sudan's sum: a message that agrees at many places makes it nought. No Go text here. -/
namespace Go.Proofs.Ytmbglikcanchbak
open Go.RowKit Go.Sort

theorem pw_xp {D : FD} (hD : D ∈ fieldsL) {a : Nat} (h0 : a ≠ 0) : ∀ k, D.pw a k = D.xp a k
  | 0 => pw_zero hD a
  | k + 1 => by
    show _ = D.mul (D.xp a k) a
    rw [← pw_xp hD h0 k, pw_succ hD a k h0]
theorem pn_xp {D : FD} (hD : D ∈ fieldsL) {a : Nat} (ha : a < D.q) (k : Nat) : D.pn a k = D.xp a k := by
  have hh : D.has (a : Nat) = true := decide_eq_true ⟨by omega, by omega⟩
  unfold FD.pn FD.powZ
  rw [if_neg (by rw [hh]; decide)]
  cases k with
  | zero => rfl
  | succ k =>
    rw [if_neg (by omega)]
    by_cases h0 : a = 0
    · subst h0
      rw [if_pos (by rfl), if_neg (by omega)]
      show 0 = D.mul (D.xp 0 k) 0
      rw [mul0 (fld hD)]
    · rw [if_neg (by omega), ← pw_xp hD h0]
      rw [Int.toNat_natCast]
      have e : (((k + 1 : Nat) : Int) % ((D.q - 1 : Nat) : Int)).toNat = (k + 1) % (D.q - 1) := by
        have e0 : ((k + 1 : Nat) : Int) % ((D.q - 1 : Nat) : Int) = (((k + 1) % (D.q - 1) : Nat) : Int) := rfl
        rw [e0, Int.toNat_natCast]
      rw [e, Int.toNat_natCast]
      unfold FD.pw
      rw [Nat.mul_mod_mod]

theorem ev_congr {D : FD} {c d : Nat → Nat} (x : Nat) : ∀ n, (∀ i, i < n → c i = d i) → D.ev c x n = D.ev d x n
  | 0, _ => rfl
  | n + 1, h => by
    show D.ad (D.ev c x n) (D.mul (c n) (D.xp x n)) = D.ad (D.ev d x n) (D.mul (d n) (D.xp x n))
    rw [ev_congr x n (fun i hi => h i (by omega)), h n (by omega)]
/-- A sum in the field. -/
def fsm (D : FD) (h : Nat → Nat) : Nat → Nat
  | 0 => 0
  | m + 1 => D.ad (fsm D h m) (h m)
theorem fsm_lt {D : FD} (F : Fld D) {h : Nat → Nat} (hh : ∀ j, h j < D.q) : ∀ m, fsm D h m < D.q
  | 0 => zero_lt' F
  | m + 1 => ad_lt F (fsm_lt F hh m) (hh m)
theorem fsm_congr {D : FD} {h g : Nat → Nat} : ∀ m, (∀ j, j < m → h j = g j) → fsm D h m = fsm D g m
  | 0, _ => rfl
  | m + 1, e => by
    show D.ad (fsm D h m) (h m) = D.ad (fsm D g m) (g m)
    rw [fsm_congr m (fun j hj => e j (by omega)), e m (by omega)]
theorem fsm_zero {D : FD} (F : Fld D) : ∀ m, fsm D (fun _ => 0) m = 0
  | 0 => rfl
  | m + 1 => by show D.ad (fsm D (fun _ => 0) m) 0 = 0; rw [fsm_zero F m, ad_zero F (zero_lt' F)]
theorem fsm_put {D : FD} (F : Fld D) {h g : Nat → Nat} (hh : ∀ j, h j < D.q) {j0 v : Nat} (hv : v < D.q) (e0 : g j0 = D.ad (h j0) v) : ∀ m, (∀ j, j < m → j ≠ j0 → g j = h j) → (j0 < m → fsm D g m = D.ad (fsm D h m) v) ∧ (¬ j0 < m → fsm D g m = fsm D h m)
  | 0, _ => ⟨fun h => absurd h (by omega), fun _ => rfl⟩
  | m + 1, e => by
    have ih := fsm_put F hh hv e0 m (fun j hj hne => e j (by omega) hne)
    refine ⟨fun hl => ?_, fun hl => ?_⟩
    · show D.ad (fsm D g m) (g m) = D.ad (D.ad (fsm D h m) (h m)) v
      by_cases hm : j0 = m
      · subst hm
        rw [ih.2 (by omega), e0, ad_assoc F (fsm_lt F hh _) (hh _) hv]
      · rw [ih.1 (by omega), e m (by omega) (fun x => hm x.symm), ad_assoc F (fsm_lt F hh _) hv (hh _), ad_comm F v, ad_assoc F (fsm_lt F hh _) (hh _) hv]
    · show D.ad (fsm D g m) (g m) = D.ad (fsm D h m) (h m)
      rw [ih.2 (by omega), e m (by omega) (by omega)]
theorem fsm_first {D : FD} (F : Fld D) {h : Nat → Nat} (hh : ∀ j, h j < D.q) : ∀ m, fsm D h (m + 1) = D.ad (fsm D (fun j => h (j + 1)) m) (h 0)
  | 0 => by
    show D.ad 0 (h 0) = D.ad 0 (h 0)
    rfl
  | m + 1 => by
    show D.ad (fsm D h (m + 1)) (h (m + 1)) = D.ad (D.ad (fsm D (fun j => h (j + 1)) m) (h (m + 1))) (h 0)
    have h2 := fsm_lt F (fun j => hh (j + 1)) m
    rw [fsm_first F hh m, ad_assoc F h2 (hh 0) (hh _), ad_comm F (h 0), ad_assoc F h2 (hh _) (hh 0)]
theorem fsm_mul {D : FD} (F : Fld D) {h : Nat → Nat} (hh : ∀ j, h j < D.q) (y : Nat) : ∀ m, D.mul (fsm D h m) y = fsm D (fun j => D.mul (h j) y) m
  | 0 => zmul F y
  | m + 1 => by
    show D.mul (D.ad (fsm D h m) (h m)) y = D.ad (fsm D (fun j => D.mul (h j) y) m) (D.mul (h m) y)
    rw [ad_mul F (fsm_lt F hh m) (hh m), fsm_mul F hh y m]
/-- Horner's way. -/
def hrn (D : FD) (A : Nat → Nat) (y m : Nat) : Nat → Nat
  | 0 => 0
  | r + 1 => D.ad (D.mul (hrn D A y m r) y) (A (m - 1 - r))
theorem hrn_is {D : FD} (F : Fld D) {A : Nat → Nat} (hA : ∀ j, A j < D.q) (y m : Nat) : ∀ r, r ≤ m → hrn D A y m r = fsm D (fun j => D.mul (A (m - r + j)) (D.xp y j)) r
  | 0, _ => rfl
  | r + 1, h => by
    show D.ad (D.mul (hrn D A y m r) y) (A (m - 1 - r)) = _
    rw [fsm_first F (fun j => F.mul_lt _ _), hrn_is F hA y m r (by omega), fsm_mul F (fun j => F.mul_lt _ _)]
    have e : fsm D (fun j => D.mul (A (m - (r + 1) + (j + 1))) (D.xp y (j + 1))) r = fsm D (fun j => D.mul (D.mul (A (m - r + j)) (D.xp y j)) y) r := by
      refine fsm_congr r fun j _ => ?_
      show D.mul (A (m - (r + 1) + (j + 1))) (D.mul (D.xp y j) y) = _
      rw [← F.mul_assoc, show m - (r + 1) + (j + 1) = m - r + j by omega]
    rw [e]
    congr 1
    show A (m - 1 - r) = D.mul (A (m - (r + 1) + 0)) 1
    rw [mul1 F (hA _), show m - (r + 1) + 0 = m - 1 - r by omega]

/-- The numbers of a list that was laid. -/
def gzf (p s : Nat → Nat) (a j : Nat) : Nat → Nat := fun i => ((gz p s a j).getD i 0).toNat
theorem gzf_at (p s : Nat → Nat) (a i : Nat) : gzf p s (a + 1) (p a) i = if i < (gz p s a (p a)).length then gzf p s a (p a) i else if i = (gz p s a (p a)).length then s a else 0 := by
  have e : gz p s (a + 1) (p a) = gz p s a (p a) ++ [((s a : Nat) : Int)] := by
    show (if p a = p a then _ else _) = _
    rw [if_pos rfl]
  unfold gzf
  rw [e, List.getD_eq_getElem?_getD]
  by_cases h : i < (gz p s a (p a)).length
  · rw [if_pos h, List.getElem?_append_left h, List.getD_eq_getElem?_getD]
  · rw [if_neg h, List.getElem?_append_right (by omega)]
    by_cases h2 : i = (gz p s a (p a)).length
    · rw [if_pos h2, h2, Nat.sub_self]
      simp
    · rw [if_neg h2]
      obtain ⟨d, hd⟩ : ∃ d, i - (gz p s a (p a)).length = d + 1 := ⟨i - (gz p s a (p a)).length - 1, by omega⟩
      rw [hd]
      simp
theorem gzl_at (p s : Nat → Nat) (a : Nat) : (gz p s (a + 1) (p a)).length = (gz p s a (p a)).length + 1 := by
  show (if p a = p a then _ else _ : List Int).length = _
  rw [if_pos rfl, List.length_append]; rfl
theorem gz_off {p s : Nat → Nat} {a j : Nat} (h : j ≠ p a) : gz p s (a + 1) j = gz p s a j := by
  show (if j = p a then _ else _) = _
  rw [if_neg h]
/-- The sum, product by product, is the sum, list by list. -/
theorem lists_sum {D : FD} (F : Fld D) {p px s : Nat → Nat} (hs : El D s) (x y m : Nat) : ∀ a, (∀ b, b < a → p b < m ∧ px b = (gz p s b (p b)).length) →
    dot D (fun b => D.mul (D.xp x (px b)) (D.xp y (p b))) s a = fsm D (fun j => D.mul (D.ev (gzf p s a j) x (gz p s a j).length) (D.xp y j)) m
  | 0, _ => by
    show 0 = fsm D (fun j => D.mul (D.ev (gzf p s 0 j) x 0) (D.xp y j)) m
    exact ((fsm_congr (g := fun _ => 0) m fun j _ => zmul F _).trans (fsm_zero F m)).symm
  | a + 1, h => by
    have ih := lists_sum F hs x y m a (fun b hb => h b (by omega))
    have ha := h a (by omega)
    show D.ad (dot D _ s a) (D.mul (D.mul (D.xp x (px a)) (D.xp y (p a))) (s a)) = _
    rw [ih]
    have hev : D.ev (gzf p s (a + 1) (p a)) x (gz p s (a + 1) (p a)).length = D.ad (D.ev (gzf p s a (p a)) x (gz p s a (p a)).length) (D.mul (s a) (D.xp x (px a))) := by
      rw [gzl_at, ha.2]
      show D.ad (D.ev (gzf p s (a + 1) (p a)) x (gz p s a (p a)).length) (D.mul (gzf p s (a + 1) (p a) (gz p s a (p a)).length) (D.xp x (gz p s a (p a)).length)) = _
      rw [gzf_at p s a (gz p s a (p a)).length, if_neg (by omega), if_pos rfl]
      congr 1
      exact ev_congr x _ fun i hi => by rw [gzf_at, if_pos hi]
    have hput := fsm_put F (h := fun j => D.mul (D.ev (gzf p s a j) x (gz p s a j).length) (D.xp y j)) (g := fun j => D.mul (D.ev (gzf p s (a + 1) j) x (gz p s (a + 1) j).length) (D.xp y j)) (fun j => F.mul_lt _ _) (j0 := p a) (v := D.mul (D.mul (D.xp x (px a)) (D.xp y (p a))) (s a)) (F.mul_lt _ _) (by
      show D.mul (D.ev (gzf p s (a + 1) (p a)) x (gz p s (a + 1) (p a)).length) (D.xp y (p a)) = D.ad (D.mul (D.ev (gzf p s a (p a)) x (gz p s a (p a)).length) (D.xp y (p a))) _
      rw [hev, ad_mul F (ev_lt F _ _ _) (F.mul_lt _ _)]
      congr 1
      rw [F.mul_comm (s a), F.mul_assoc, F.mul_assoc, F.mul_comm (s a)]) m (fun j _ hne => by
      show D.mul (D.ev (gzf p s (a + 1) j) x (gz p s (a + 1) j).length) (D.xp y j) = _
      unfold gzf
      rw [gz_off hne])
    exact (hput.1 ha.1).symm
end Go.Proofs.Ytmbglikcanchbak
