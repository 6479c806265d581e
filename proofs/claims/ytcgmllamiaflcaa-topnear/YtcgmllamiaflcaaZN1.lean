/- Plain mathematics of polynomials over a field: sums, multiples, shifts, products. A polynomial is the function of its coefficients. No Go text here. -/
import Derived.Test.YtcgmllamiaflcaaZM3
namespace Go.Proofs.Ytcgmllamiaflcaa

def FD.ad (D : FD) (a b : Nat) : Nat := sumD D.p D.q a b
def FD.ng (D : FD) (a : Nat) : Nat := negD D.p D.q a
def FD.sb (D : FD) (a b : Nat) : Nat := D.ad a (D.ng b)

/-- All coefficients are elements. -/
def El (D : FD) (c : Nat → Nat) : Prop := ∀ i, c i < D.q

theorem ad_lt {D : FD} (F : Fld D) {a b : Nat} (ha : a < D.q) (hb : b < D.q) : D.ad a b < D.q := F.sum_lt a b ha hb
theorem ad_comm {D : FD} (F : Fld D) (a b : Nat) : D.ad a b = D.ad b a := F.add_comm a b
theorem ad_assoc {D : FD} (F : Fld D) {a b c : Nat} (ha : a < D.q) (hb : b < D.q) (hc : c < D.q) : D.ad (D.ad a b) c = D.ad a (D.ad b c) := F.add_assoc a b c ha hb hc
theorem ad_zero {D : FD} (F : Fld D) {a : Nat} (ha : a < D.q) : D.ad a 0 = a := F.sum_zero a ha
theorem zero_ad {D : FD} (F : Fld D) {a : Nat} (ha : a < D.q) : D.ad 0 a = a := by rw [ad_comm F]; exact ad_zero F ha
theorem zero_lt' {D : FD} (F : Fld D) : 0 < D.q := by have := F.q2; omega
theorem one_lt' {D : FD} (F : Fld D) : 1 < D.q := by have := F.q2; omega
theorem ng_lt {D : FD} (F : Fld D) {a : Nat} (ha : a < D.q) : D.ng a < D.q := F.neg_lt a ha
theorem ad_ng {D : FD} (F : Fld D) {a : Nat} (ha : a < D.q) : D.ad a (D.ng a) = 0 := F.sum_neg a ha
theorem ng_zero {D : FD} (F : Fld D) : D.ng 0 = 0 := by
  have h := ad_ng F (zero_lt' F)
  rwa [zero_ad F (ng_lt F (zero_lt' F))] at h
theorem sb_lt {D : FD} (F : Fld D) {a b : Nat} (ha : a < D.q) (hb : b < D.q) : D.sb a b < D.q := ad_lt F ha (ng_lt F hb)
theorem sb_zero {D : FD} (F : Fld D) {a : Nat} (ha : a < D.q) : D.sb a 0 = a := by rw [FD.sb, ng_zero F, ad_zero F ha]
theorem sb_self {D : FD} (F : Fld D) {a : Nat} (ha : a < D.q) : D.sb a a = 0 := ad_ng F ha
theorem ad_sb {D : FD} (F : Fld D) {a b : Nat} (ha : a < D.q) (hb : b < D.q) : D.ad b (D.sb a b) = a := by
  rw [FD.sb, ad_comm F a, ← ad_assoc F hb (ng_lt F hb) ha, ad_ng F hb, zero_ad F ha]
theorem sb_ad {D : FD} (F : Fld D) {a b : Nat} (ha : a < D.q) (hb : b < D.q) : D.sb (D.ad a b) b = a := by
  rw [FD.sb, ad_assoc F ha hb (ng_lt F hb), ad_ng F hb, ad_zero F ha]
theorem ad_cancel {D : FD} (F : Fld D) {a b c : Nat} (ha : a < D.q) (hb : b < D.q) (hc : c < D.q) (h : D.ad a b = D.ad a c) : b = c := by
  have h1 := sb_ad F hb ha
  have h2 := sb_ad F hc ha
  rw [ad_comm F b a, h, ad_comm F a c, h2] at h1
  exact h1.symm
theorem sb_eq_zero {D : FD} (F : Fld D) {a b : Nat} (ha : a < D.q) (hb : b < D.q) (h : D.sb a b = 0) : a = b := by
  have := ad_sb F ha hb
  rw [h, ad_zero F hb] at this
  exact this.symm
theorem mul0 {D : FD} (_F : Fld D) (a : Nat) : D.mul a 0 = 0 := by simp [FD.mul]
theorem zmul {D : FD} (_F : Fld D) (a : Nat) : D.mul 0 a = 0 := by simp [FD.mul]
theorem mul_ad {D : FD} (F : Fld D) {a b c : Nat} (hb : b < D.q) (hc : c < D.q) : D.mul a (D.ad b c) = D.ad (D.mul a b) (D.mul a c) := F.distrib a b c hb hc
theorem ad_mul {D : FD} (F : Fld D) {a b c : Nat} (hb : b < D.q) (hc : c < D.q) : D.mul (D.ad b c) a = D.ad (D.mul b a) (D.mul c a) := by
  rw [F.mul_comm, mul_ad F hb hc, F.mul_comm a b, F.mul_comm a c]
theorem mul1 {D : FD} (F : Fld D) {a : Nat} (ha : a < D.q) : D.mul a 1 = a := F.mul_one a ha
theorem omul {D : FD} (F : Fld D) {a : Nat} (ha : a < D.q) : D.mul 1 a = a := by rw [F.mul_comm]; exact F.mul_one a ha
theorem mul_ng {D : FD} (F : Fld D) {a b : Nat} (hb : b < D.q) : D.mul a (D.ng b) = D.ng (D.mul a b) := by
  refine ad_cancel F (F.mul_lt a b) (F.mul_lt a _) (ng_lt F (F.mul_lt a b)) ?_
  rw [ad_ng F (F.mul_lt a b), ← mul_ad F hb (ng_lt F hb), ad_ng F hb, mul0 F]
theorem mul_sb {D : FD} (F : Fld D) {a b c : Nat} (hb : b < D.q) (hc : c < D.q) : D.mul a (D.sb b c) = D.sb (D.mul a b) (D.mul a c) := by
  rw [FD.sb, mul_ad F hb (ng_lt F hc), mul_ng F hc]; rfl
theorem sb_mul {D : FD} (F : Fld D) {a b c : Nat} (hb : b < D.q) (hc : c < D.q) : D.mul (D.sb b c) a = D.sb (D.mul b a) (D.mul c a) := by
  rw [F.mul_comm, mul_sb F hb hc, F.mul_comm a b, F.mul_comm a c]
theorem mul_cancel {D : FD} (F : Fld D) {a b c : Nat} (ha : a ≠ 0) (hb : b < D.q) (hc : c < D.q) (h : D.mul a b = D.mul a c) : b = c := by
  by_cases e : D.sb b c = 0
  · exact sb_eq_zero F hb hc e
  · have h1 := (F.mul_ne a _ ha e).1
    rw [mul_sb F hb hc, h, sb_self F (F.mul_lt a c)] at h1
    exact absurd rfl h1
theorem ad4 {D : FD} (F : Fld D) {a b c d : Nat} (ha : a < D.q) (hb : b < D.q) (hc : c < D.q) (hd : d < D.q) : D.ad (D.ad a b) (D.ad c d) = D.ad (D.ad a c) (D.ad b d) := by
  rw [ad_assoc F ha hb (ad_lt F hc hd), ← ad_assoc F hb hc hd, ad_comm F b c, ad_assoc F hc hb hd, ← ad_assoc F ha hc (ad_lt F hb hd)]

def padd (D : FD) (a b : Nat → Nat) : Nat → Nat := fun k => D.ad (a k) (b k)
def psub (D : FD) (a b : Nat → Nat) : Nat → Nat := fun k => D.sb (a k) (b k)
def pscale (D : FD) (s : Nat) (b : Nat → Nat) : Nat → Nat := fun k => D.mul s (b k)
def psh (i : Nat) (b : Nat → Nat) : Nat → Nat := fun k => if i ≤ k then b (k - i) else 0
def pnil : Nat → Nat := fun _ => 0
def pone : Nat → Nat := fun k => if k = 0 then 1 else 0
/-- The sum of b's multiples, each further right, n of them. -/
def pmul (D : FD) : Nat → (Nat → Nat) → (Nat → Nat) → Nat → Nat
  | 0, _, _ => pnil
  | n + 1, a, b => padd D (pmul D n a b) (psh n (pscale D (a n) b))
/-- Nothing from the place n on. -/
def Bd (n : Nat) (a : Nat → Nat) : Prop := ∀ k, n ≤ k → a k = 0

theorem el_nil {D : FD} (F : Fld D) : El D pnil := fun _ => zero_lt' F
theorem el_add {D : FD} (F : Fld D) {a b : Nat → Nat} (ha : El D a) (hb : El D b) : El D (padd D a b) := fun k => ad_lt F (ha k) (hb k)
theorem el_sub {D : FD} (F : Fld D) {a b : Nat → Nat} (ha : El D a) (hb : El D b) : El D (psub D a b) := fun k => sb_lt F (ha k) (hb k)
theorem el_scale {D : FD} (F : Fld D) (s : Nat) (b : Nat → Nat) : El D (pscale D s b) := fun _ => F.mul_lt _ _
theorem el_sh {D : FD} (F : Fld D) {b : Nat → Nat} (i : Nat) (hb : El D b) : El D (psh i b) := fun k => by unfold psh; split; exact hb _; exact zero_lt' F
theorem el_mul {D : FD} (F : Fld D) (a b : Nat → Nat) : ∀ n, El D (pmul D n a b)
  | 0 => el_nil F
  | n + 1 => el_add F (el_mul F a b n) (el_sh F n (el_scale F _ _))

theorem padd_comm {D : FD} (F : Fld D) (a b : Nat → Nat) : padd D a b = padd D b a := by funext k; exact ad_comm F _ _
theorem padd_assoc {D : FD} (F : Fld D) {a b c : Nat → Nat} (ha : El D a) (hb : El D b) (hc : El D c) : padd D (padd D a b) c = padd D a (padd D b c) := by funext k; exact ad_assoc F (ha k) (hb k) (hc k)
theorem padd_nil {D : FD} (F : Fld D) {a : Nat → Nat} (ha : El D a) : padd D a pnil = a := by funext k; exact ad_zero F (ha k)
theorem nil_padd {D : FD} (F : Fld D) {a : Nat → Nat} (ha : El D a) : padd D pnil a = a := by funext k; exact zero_ad F (ha k)
theorem padd4 {D : FD} (F : Fld D) {a b c d : Nat → Nat} (ha : El D a) (hb : El D b) (hc : El D c) (hd : El D d) : padd D (padd D a b) (padd D c d) = padd D (padd D a c) (padd D b d) := by funext k; exact ad4 F (ha k) (hb k) (hc k) (hd k)
theorem psub_add {D : FD} (F : Fld D) {a b : Nat → Nat} (ha : El D a) (hb : El D b) : padd D b (psub D a b) = a := by funext k; exact ad_sb F (ha k) (hb k)
theorem psub_self {D : FD} (F : Fld D) {a : Nat → Nat} (ha : El D a) : psub D a a = pnil := by funext k; exact sb_self F (ha k)
theorem psub_nil {D : FD} (F : Fld D) {a : Nat → Nat} (ha : El D a) : psub D a pnil = a := by funext k; exact sb_zero F (ha k)
theorem psub_eq_nil {D : FD} (F : Fld D) {a b : Nat → Nat} (ha : El D a) (hb : El D b) (h : psub D a b = pnil) : a = b := by
  funext k; exact sb_eq_zero F (ha k) (hb k) (congrFun h k)

theorem pscale_zero {D : FD} (F : Fld D) (b : Nat → Nat) : pscale D 0 b = pnil := by funext k; exact zmul F _
theorem pscale_one {D : FD} (F : Fld D) {b : Nat → Nat} (hb : El D b) : pscale D 1 b = b := by funext k; exact omul F (hb k)
theorem pscale_nil {D : FD} (F : Fld D) (s : Nat) : pscale D s pnil = pnil := by funext k; exact mul0 F _
theorem pscale_add {D : FD} (F : Fld D) (s : Nat) {a b : Nat → Nat} (ha : El D a) (hb : El D b) : pscale D s (padd D a b) = padd D (pscale D s a) (pscale D s b) := by funext k; exact mul_ad F (ha k) (hb k)
theorem pscale_pscale {D : FD} (F : Fld D) (s t : Nat) (b : Nat → Nat) : pscale D s (pscale D t b) = pscale D (D.mul s t) b := by funext k; exact (F.mul_assoc s t (b k)).symm
theorem add_pscale {D : FD} (F : Fld D) {s t : Nat} (hs : s < D.q) (ht : t < D.q) (b : Nat → Nat) : pscale D (D.ad s t) b = padd D (pscale D s b) (pscale D t b) := by funext k; exact ad_mul F hs ht
theorem psh_nil (i : Nat) : psh i pnil = pnil := by funext k; simp [psh, pnil]
theorem psh_add {D : FD} (F : Fld D) (i : Nat) (a b : Nat → Nat) : psh i (padd D a b) = padd D (psh i a) (psh i b) := by
  funext k
  show (if i ≤ k then D.ad (a (k - i)) (b (k - i)) else 0) = D.ad (if i ≤ k then a (k - i) else 0) (if i ≤ k then b (k - i) else 0)
  by_cases h : i ≤ k
  · rw [if_pos h, if_pos h, if_pos h]
  · rw [if_neg h, if_neg h, if_neg h, ad_zero F (zero_lt' F)]
theorem psh_scale {D : FD} (F : Fld D) (i s : Nat) (b : Nat → Nat) : psh i (pscale D s b) = pscale D s (psh i b) := by
  funext k
  show (if i ≤ k then D.mul s (b (k - i)) else 0) = D.mul s (if i ≤ k then b (k - i) else 0)
  by_cases h : i ≤ k
  · rw [if_pos h, if_pos h]
  · rw [if_neg h, if_neg h, mul0 F]
theorem psh_psh (i j : Nat) (b : Nat → Nat) : psh i (psh j b) = psh (i + j) b := by
  funext k
  unfold psh
  by_cases h1 : i ≤ k
  · rw [if_pos h1]
    by_cases h2 : j ≤ k - i
    · rw [if_pos h2, if_pos (by omega), Nat.sub_sub]
    · rw [if_neg h2, if_neg (by omega)]
  · rw [if_neg h1, if_neg (by omega)]
theorem pmul_add_r {D : FD} (F : Fld D) {a b b' : Nat → Nat} (hb : El D b) (hb' : El D b') : ∀ n, pmul D n a (padd D b b') = padd D (pmul D n a b) (pmul D n a b')
  | 0 => (padd_nil F (el_nil F)).symm
  | n + 1 => by
    rw [pmul, pmul, pmul, pmul_add_r F hb hb' n, pscale_add F _ hb hb', psh_add F]
    exact padd4 F (el_mul F _ _ n) (el_mul F _ _ n) (el_sh F n (el_scale F _ _)) (el_sh F n (el_scale F _ _))
theorem pmul_scale_r {D : FD} (F : Fld D) (s : Nat) (a b : Nat → Nat) : ∀ n, pmul D n a (pscale D s b) = pscale D s (pmul D n a b)
  | 0 => (pscale_nil F s).symm
  | n + 1 => by
    rw [pmul, pmul, pmul_scale_r F s a b n, pscale_add F s (el_mul F _ _ n) (el_sh F n (el_scale F _ _)), ← psh_scale F, pscale_pscale F, pscale_pscale F, F.mul_comm]
theorem pmul_sh_r {D : FD} (F : Fld D) (i : Nat) (a b : Nat → Nat) : ∀ n, pmul D n a (psh i b) = psh i (pmul D n a b)
  | 0 => (psh_nil i).symm
  | n + 1 => by
    rw [pmul, pmul, pmul_sh_r F i a b n, psh_add F, psh_psh, ← psh_scale F, psh_psh, Nat.add_comm i n]
theorem pmul_zeros {D : FD} (F : Fld D) {a : Nat → Nat} (b : Nat → Nat) (h : Bd 0 a) : ∀ n, pmul D n a b = pnil
  | 0 => rfl
  | n + 1 => by rw [pmul, pmul_zeros F b h n, h n (Nat.zero_le _), pscale_zero F, psh_nil, padd_nil F (el_nil F)]
theorem pmul_more {D : FD} (F : Fld D) {a : Nat → Nat} (b : Nat → Nat) {n : Nat} (h : Bd n a) : ∀ k, pmul D (n + k) a b = pmul D n a b
  | 0 => rfl
  | k + 1 => by rw [← Nat.add_assoc, pmul, pmul_more F b h k, h (n + k) (by omega), pscale_zero F, psh_nil, padd_nil F (el_mul F _ _ _)]
theorem pmul_to {D : FD} (F : Fld D) {a : Nat → Nat} (b : Nat → Nat) {n N : Nat} (h : Bd n a) (hn : n ≤ N) : pmul D N a b = pmul D n a b := by
  have := pmul_more F b h (N - n)
  rwa [show n + (N - n) = N from by omega] at this
theorem pmul_nil_r {D : FD} (F : Fld D) (a : Nat → Nat) : ∀ n, pmul D n a pnil = pnil
  | 0 => rfl
  | n + 1 => by rw [pmul, pmul_nil_r F a n, pscale_nil F, psh_nil, padd_nil F (el_nil F)]
theorem pmul_bd {D : FD} (F : Fld D) {a b : Nat → Nat} {m : Nat} (hb : Bd m b) : ∀ n, Bd (n + m - 1) (pmul D n a b)
  | 0 => fun _ _ => rfl
  | n + 1 => fun k hk => by
    show D.ad (pmul D n a b k) (psh n (pscale D (a n) b) k) = 0
    rw [pmul_bd F hb n k (by omega)]
    unfold psh
    split
    · unfold pscale
      rw [hb (k - n) (by omega), mul0 F, ad_zero F (zero_lt' F)]
    · exact ad_zero F (zero_lt' F)
theorem pmul_top {D : FD} (F : Fld D) {a b : Nat → Nat} {n m : Nat} (hb : Bd (m + 1) b) : pmul D (n + 1) a b (n + m) = D.mul (a n) (b m) := by
  show D.ad (pmul D n a b (n + m)) (psh n (pscale D (a n) b) (n + m)) = _
  rw [pmul_bd F hb n (n + m) (by omega)]
  unfold psh pscale
  rw [if_pos (by omega), Nat.add_sub_cancel_left, zero_ad F (F.mul_lt _ _)]
theorem pmul_one {D : FD} (F : Fld D) {a : Nat → Nat} (ha : El D a) {n : Nat} (hn : Bd n a) : pmul D n a pone = a := by
  have h : ∀ m, pmul D m a pone = fun k => if k < m then a k else 0 := by
    intro m
    induction m with
    | zero => rfl
    | succ m ih =>
      rw [pmul, ih]
      funext k
      show D.ad (if k < m then a k else 0) (psh m (pscale D (a m) pone) k) = if k < m + 1 then a k else 0
      unfold psh pscale pone
      rcases Nat.lt_trichotomy k m with h | h | h
      · rw [if_pos h, if_neg (by omega), if_pos (by omega), ad_zero F (ha k)]
      · subst h
        rw [if_neg (by omega), if_pos (Nat.le_refl _), if_pos (by omega), if_pos (by omega), mul1 F (ha k), zero_ad F (ha k)]
      · rw [if_neg (by omega), if_pos (by omega), if_neg (by omega), if_neg (by omega), mul0 F, ad_zero F (zero_lt' F)]
  rw [h]
  funext k
  show (if k < n then a k else 0) = a k
  split
  · rfl
  · exact (hn k (by omega)).symm
/-- The coefficients below n alone. -/
theorem cut_one {D : FD} (F : Fld D) {a : Nat → Nat} (ha : El D a) (n : Nat) : (fun k => if k < n + 1 then a k else 0) = padd D (fun k => if k < n then a k else 0) (psh n (pscale D (a n) pone)) := by
  funext k
  show _ = D.ad (if k < n then a k else 0) (psh n (pscale D (a n) pone) k)
  unfold psh pscale pone
  rcases Nat.lt_trichotomy k n with h | h | h
  · rw [if_pos (by omega), if_pos h, if_neg (by omega), ad_zero F (ha k)]
  · subst h
    rw [if_pos (by omega), if_neg (by omega), if_pos (Nat.le_refl _), if_pos (by omega), mul1 F (ha k), zero_ad F (ha k)]
  · rw [if_neg (by omega), if_neg (by omega), if_pos (by omega), if_neg (by omega), mul0 F, ad_zero F (zero_lt' F)]
theorem pmul_comm {D : FD} (F : Fld D) {a b : Nat → Nat} (ha : El D a) (hb : El D b) {n m : Nat} (hn : Bd n a) (hm : Bd m b) : pmul D n a b = pmul D m b a := by
  have h : ∀ k, pmul D k a b = pmul D m b (fun i => if i < k then a i else 0) := by
    intro k
    induction k with
    | zero => rw [pmul, show (fun i => if i < 0 then a i else 0) = pnil from by funext i; rw [if_neg (by omega)]; rfl, pmul_nil_r F]
    | succ k ih =>
      have hc : El D (fun i => if i < k then a i else 0) := fun i => by show (if i < k then a i else 0) < D.q; split; exact ha i; exact zero_lt' F
      rw [pmul, ih, cut_one F ha k, pmul_add_r F hc (el_sh F k (el_scale F _ _)), pmul_sh_r F, pmul_scale_r F, pmul_one F hb hm]
  rw [h n]
  congr 1
  funext i
  split
  · rfl
  · exact (hn i (by omega)).symm
end Go.Proofs.Ytcgmllamiaflcaa
