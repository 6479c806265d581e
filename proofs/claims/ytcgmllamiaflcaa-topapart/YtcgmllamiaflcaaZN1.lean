/- Plain mathematics of polynomials over a field: sums, multiples, shifts, products. A polynomial is the function of its coefficients. No Go text here. -/
import Derived.Test.YtcgmllamiaflcaaZM3
namespace Go.Proofs.Ytcgmllamiaflcaa

def FD.ad (D : FD) (a b : Nat) : Nat := sumD D.p D.q a b
def FD.ng (D : FD) (a : Nat) : Nat := negD D.p D.q a
def FD.sb (D : FD) (a b : Nat) : Nat := D.ad a (D.ng b)

/-- All coefficients are elements. -/
def El (D : FD) (c : Nat → Nat) : Prop := ∀ i, c i < D.q

theorem ad_lt {D : FD} (F : Fld D) {a b : Nat} (ha : a < D.q) (hb : b < D.q) : D.ad a b < D.q := F.sum_lt a b ha hb
theorem ad_comm {D : FD} (F : Fld D) (a b : Nat) : D.ad a b = D.ad b a := F.add_comm a b
theorem ad_assoc {D : FD} (F : Fld D) {a b c : Nat} (ha : a < D.q) (hb : b < D.q) (hc : c < D.q) : D.ad (D.ad a b) c = D.ad a (D.ad b c) := F.add_assoc a b c ha hb hc
theorem ad_zero {D : FD} (F : Fld D) {a : Nat} (ha : a < D.q) : D.ad a 0 = a := F.sum_zero a ha
theorem zero_ad {D : FD} (F : Fld D) {a : Nat} (ha : a < D.q) : D.ad 0 a = a := by rw [ad_comm F]; exact ad_zero F ha
theorem zero_lt' {D : FD} (F : Fld D) : 0 < D.q := by have := F.q2; omega
theorem one_lt' {D : FD} (F : Fld D) : 1 < D.q := by have := F.q2; omega
theorem ng_lt {D : FD} (F : Fld D) {a : Nat} (ha : a < D.q) : D.ng a < D.q := F.neg_lt a ha
theorem ad_ng {D : FD} (F : Fld D) {a : Nat} (ha : a < D.q) : D.ad a (D.ng a) = 0 := F.sum_neg a ha
theorem ng_zero {D : FD} (F : Fld D) : D.ng 0 = 0 := by
  have h := ad_ng F (zero_lt' F)
  rwa [zero_ad F (ng_lt F (zero_lt' F))] at h
theorem sb_lt {D : FD} (F : Fld D) {a b : Nat} (ha : a < D.q) (hb : b < D.q) : D.sb a b < D.q := ad_lt F ha (ng_lt F hb)
theorem sb_zero {D : FD} (F : Fld D) {a : Nat} (ha : a < D.q) : D.sb a 0 = a := by rw [FD.sb, ng_zero F, ad_zero F ha]
theorem sb_self {D : FD} (F : Fld D) {a : Nat} (ha : a < D.q) : D.sb a a = 0 := ad_ng F ha
theorem ad_sb {D : FD} (F : Fld D) {a b : Nat} (ha : a < D.q) (hb : b < D.q) : D.ad b (D.sb a b) = a := by
  rw [FD.sb, ad_comm F a, ← ad_assoc F hb (ng_lt F hb) ha, ad_ng F hb, zero_ad F ha]
theorem sb_ad {D : FD} (F : Fld D) {a b : Nat} (ha : a < D.q) (hb : b < D.q) : D.sb (D.ad a b) b = a := by
  rw [FD.sb, ad_assoc F ha hb (ng_lt F hb), ad_ng F hb, ad_zero F ha]
theorem ad_cancel {D : FD} (F : Fld D) {a b c : Nat} (ha : a < D.q) (hb : b < D.q) (hc : c < D.q) (h : D.ad a b = D.ad a c) : b = c := by
  have h1 := sb_ad F hb ha
  have h2 := sb_ad F hc ha
  rw [ad_comm F b a, h, ad_comm F a c, h2] at h1
  exact h1.symm
theorem sb_eq_zero {D : FD} (F : Fld D) {a b : Nat} (ha : a < D.q) (hb : b < D.q) (h : D.sb a b = 0) : a = b := by
  have := ad_sb F ha hb
  rw [h, ad_zero F hb] at this
  exact this.symm
theorem mul0 {D : FD} (_F : Fld D) (a : Nat) : D.mul a 0 = 0 := by simp [FD.mul]
theorem zmul {D : FD} (_F : Fld D) (a : Nat) : D.mul 0 a = 0 := by simp [FD.mul]
theorem mul_ad {D : FD} (F : Fld D) {a b c : Nat} (hb : b < D.q) (hc : c < D.q) : D.mul a (D.ad b c) = D.ad (D.mul a b) (D.mul a c) := F.distrib a b c hb hc
theorem ad_mul {D : FD} (F : Fld D) {a b c : Nat} (hb : b < D.q) (hc : c < D.q) : D.mul (D.ad b c) a = D.ad (D.mul b a) (D.mul c a) := by
  rw [F.mul_comm, mul_ad F hb hc, F.mul_comm a b, F.mul_comm a c]
theorem mul1 {D : FD} (F : Fld D) {a : Nat} (ha : a < D.q) : D.mul a 1 = a := F.mul_one a ha
theorem omul {D : FD} (F : Fld D) {a : Nat} (ha : a < D.q) : D.mul 1 a = a := by rw [F.mul_comm]; exact F.mul_one a ha
theorem mul_ng {D : FD} (F : Fld D) {a b : Nat} (hb : b < D.q) : D.mul a (D.ng b) = D.ng (D.mul a b) := by
  refine ad_cancel F (F.mul_lt a b) (F.mul_lt a _) (ng_lt F (F.mul_lt a b)) ?_
  rw [ad_ng F (F.mul_lt a b), ← mul_ad F hb (ng_lt F hb), ad_ng F hb, mul0 F]
theorem mul_sb {D : FD} (F : Fld D) {a b c : Nat} (hb : b < D.q) (hc : c < D.q) : D.mul a (D.sb b c) = D.sb (D.mul a b) (D.mul a c) := by
  rw [FD.sb, mul_ad F hb (ng_lt F hc), mul_ng F hc]; rfl
theorem sb_mul {D : FD} (F : Fld D) {a b c : Nat} (hb : b < D.q) (hc : c < D.q) : D.mul (D.sb b c) a = D.sb (D.mul b a) (D.mul c a) := by
  rw [F.mul_comm, mul_sb F hb hc, F.mul_comm a b, F.mul_comm a c]
theorem mul_cancel {D : FD} (F : Fld D) {a b c : Nat} (ha : a ≠ 0) (hb : b < D.q) (hc : c < D.q) (h : D.mul a b = D.mul a c) : b = c := by
  by_cases e : D.sb b c = 0
  · exact sb_eq_zero F hb hc e
  · have h1 := (F.mul_ne a _ ha e).1
    rw [mul_sb F hb hc, h, sb_self F (F.mul_lt a c)] at h1
    exact absurd rfl h1
theorem ad4 {D : FD} (F : Fld D) {a b c d : Nat} (ha : a < D.q) (hb : b < D.q) (hc : c < D.q) (hd : d < D.q) : D.ad (D.ad a b) (D.ad c d) = D.ad (D.ad a c) (D.ad b d) := by
  rw [ad_assoc F ha hb (ad_lt F hc hd), ← ad_assoc F hb hc hd, ad_comm F b c, ad_assoc F hc hb hd, ← ad_assoc F ha hc (ad_lt F hb hd)]

def padd (D : FD) (a b : Nat → Nat) : Nat → Nat := fun k => D.ad (a k) (b k)
def psub (D : FD) (a b : Nat → Nat) : Nat → Nat := fun k => D.sb (a k) (b k)
def pscale (D : FD) (s : Nat) (b : Nat → Nat) : Nat → Nat := fun k => D.mul s (b k)
def psh (i : Nat) (b : Nat → Nat) : Nat → Nat := fun k => if i ≤ k then b (k - i) else 0
def pnil : Nat → Nat := fun _ => 0
/-- The sum of b's multiples, each further right, n of them. -/
def pmul (D : FD) : Nat → (Nat → Nat) → (Nat → Nat) → Nat → Nat
  | 0, _, _ => pnil
  | n + 1, a, b => padd D (pmul D n a b) (psh n (pscale D (a n) b))
/-- Nothing from the place n on. -/
def Bd (n : Nat) (a : Nat → Nat) : Prop := ∀ k, n ≤ k → a k = 0

theorem el_nil {D : FD} (F : Fld D) : El D pnil := fun _ => zero_lt' F
theorem el_add {D : FD} (F : Fld D) {a b : Nat → Nat} (ha : El D a) (hb : El D b) : El D (padd D a b) := fun k => ad_lt F (ha k) (hb k)
theorem el_sub {D : FD} (F : Fld D) {a b : Nat → Nat} (ha : El D a) (hb : El D b) : El D (psub D a b) := fun k => sb_lt F (ha k) (hb k)
theorem el_scale {D : FD} (F : Fld D) (s : Nat) (b : Nat → Nat) : El D (pscale D s b) := fun _ => F.mul_lt _ _
theorem el_sh {D : FD} (F : Fld D) {b : Nat → Nat} (i : Nat) (hb : El D b) : El D (psh i b) := fun k => by unfold psh; split; exact hb _; exact zero_lt' F
theorem el_mul {D : FD} (F : Fld D) (a b : Nat → Nat) : ∀ n, El D (pmul D n a b)
  | 0 => el_nil F
  | n + 1 => el_add F (el_mul F a b n) (el_sh F n (el_scale F _ _))

theorem padd_comm {D : FD} (F : Fld D) (a b : Nat → Nat) : padd D a b = padd D b a := by funext k; exact ad_comm F _ _
theorem padd_assoc {D : FD} (F : Fld D) {a b c : Nat → Nat} (ha : El D a) (hb : El D b) (hc : El D c) : padd D (padd D a b) c = padd D a (padd D b c) := by funext k; exact ad_assoc F (ha k) (hb k) (hc k)
theorem nil_padd {D : FD} (F : Fld D) {a : Nat → Nat} (ha : El D a) : padd D pnil a = a := by funext k; exact zero_ad F (ha k)
theorem psub_add {D : FD} (F : Fld D) {a b : Nat → Nat} (ha : El D a) (hb : El D b) : padd D b (psub D a b) = a := by funext k; exact ad_sb F (ha k) (hb k)
end Go.Proofs.Ytcgmllamiaflcaa
