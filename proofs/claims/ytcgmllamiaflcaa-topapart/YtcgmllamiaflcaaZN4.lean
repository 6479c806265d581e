/- Texts of ours, one behind the other: N4 U1. -/
import Derived.Test.YtcgmllamiaflcaaZN2
import Derived.Test.YtcgmllamiaflcaaZB6
/- Plain mathematics of polynomials, gone on: values of sums and products. No Go text here. -/
namespace Go.Proofs.Ytcgmllamiaflcaa

/-- x to the power k. -/
def FD.xp (D : FD) (x : Nat) : Nat → Nat
  | 0 => 1
  | k + 1 => D.mul (D.xp x k) x
theorem xp_lt {D : FD} (F : Fld D) (x : Nat) : ∀ k, D.xp x k < D.q
  | 0 => one_lt' F
  | _ + 1 => F.mul_lt _ _
theorem xp_add {D : FD} (F : Fld D) (x i : Nat) : ∀ k, D.xp x (i + k) = D.mul (D.xp x i) (D.xp x k)
  | 0 => (mul1 F (xp_lt F x i)).symm
  | k + 1 => by rw [← Nat.add_assoc, FD.xp, xp_add F x i k, FD.xp, F.mul_assoc]
/-- The value at x of the first n coefficients. -/
def FD.ev (D : FD) (c : Nat → Nat) (x : Nat) : Nat → Nat
  | 0 => 0
  | n + 1 => D.ad (D.ev c x n) (D.mul (c n) (D.xp x n))
theorem ev_lt {D : FD} (F : Fld D) (c : Nat → Nat) (x : Nat) : ∀ n, D.ev c x n < D.q
  | 0 => zero_lt' F
  | n + 1 => ad_lt F (ev_lt F c x n) (F.mul_lt _ _)
theorem ev_add {D : FD} (F : Fld D) {a b : Nat → Nat} (x : Nat) (ha : El D a) (hb : El D b) : ∀ n, D.ev (padd D a b) x n = D.ad (D.ev a x n) (D.ev b x n)
  | 0 => (ad_zero F (zero_lt' F)).symm
  | n + 1 => by
    show D.ad (D.ev (padd D a b) x n) (D.mul (D.ad (a n) (b n)) (D.xp x n)) = _
    rw [ev_add F x ha hb n, ad_mul F (ha n) (hb n)]
    exact ad4 F (ev_lt F a x n) (ev_lt F b x n) (F.mul_lt _ _) (F.mul_lt _ _)
theorem ev_scale {D : FD} (F : Fld D) (s x : Nat) (b : Nat → Nat) : ∀ n, D.ev (pscale D s b) x n = D.mul s (D.ev b x n)
  | 0 => (mul0 F s).symm
  | n + 1 => by
    show D.ad (D.ev (pscale D s b) x n) (D.mul (D.mul s (b n)) (D.xp x n)) = D.mul s (D.ad (D.ev b x n) (D.mul (b n) (D.xp x n)))
    rw [ev_scale F s x b n, mul_ad F (ev_lt F b x n) (F.mul_lt _ _), F.mul_assoc]
theorem ev_to {D : FD} (F : Fld D) {c : Nat → Nat} {n : Nat} (x : Nat) (h : Bd n c) : ∀ k, D.ev c x (n + k) = D.ev c x n
  | 0 => rfl
  | k + 1 => by
    rw [← Nat.add_assoc]
    show D.ad (D.ev c x (n + k)) (D.mul (c (n + k)) (D.xp x (n + k))) = _
    rw [ev_to F x h k, h (n + k) (by omega), zmul F, ad_zero F (ev_lt F c x n)]
theorem ev_from {D : FD} (F : Fld D) {c : Nat → Nat} {n N : Nat} (x : Nat) (h : Bd n c) (hn : n ≤ N) : D.ev c x N = D.ev c x n := by
  have := ev_to F x h (N - n)
  rwa [show n + (N - n) = N from by omega] at this
theorem ev_nil {D : FD} (F : Fld D) (x : Nat) : ∀ n, D.ev pnil x n = 0
  | 0 => rfl
  | n + 1 => by
    show D.ad (D.ev pnil x n) (D.mul 0 (D.xp x n)) = 0
    rw [ev_nil F x n, zmul F, ad_zero F (zero_lt' F)]
theorem ev_sh_lo {D : FD} (F : Fld D) {b : Nat → Nat} (x i : Nat) : ∀ n, n ≤ i → D.ev (psh i b) x n = 0
  | 0, _ => rfl
  | n + 1, h => by
    show D.ad (D.ev (psh i b) x n) (D.mul (psh i b n) (D.xp x n)) = 0
    rw [ev_sh_lo F x i n (by omega), show psh i b n = 0 from by unfold psh; exact if_neg (by omega), zmul F, ad_zero F (zero_lt' F)]
theorem ev_sh {D : FD} (F : Fld D) {b : Nat → Nat} (x i : Nat) : ∀ n, D.ev (psh i b) x (i + n) = D.mul (D.xp x i) (D.ev b x n)
  | 0 => by rw [Nat.add_zero, ev_sh_lo F x i i (Nat.le_refl _)]; exact (mul0 F _).symm
  | n + 1 => by
    rw [← Nat.add_assoc]
    show D.ad (D.ev (psh i b) x (i + n)) (D.mul (psh i b (i + n)) (D.xp x (i + n))) = D.mul (D.xp x i) (D.ad (D.ev b x n) (D.mul (b n) (D.xp x n)))
    rw [ev_sh F x i n, show psh i b (i + n) = b n from by unfold psh; rw [if_pos (by omega), Nat.add_sub_cancel_left], xp_add F, mul_ad F (ev_lt F b x n) (F.mul_lt _ _), ← F.mul_assoc (b n), F.mul_comm (b n) (D.xp x i), F.mul_assoc]
/-- The value of a product is the product of the values. -/
theorem ev_mul {D : FD} (F : Fld D) {a b : Nat → Nat} (x : Nat) {m : Nat} (hm : Bd m b) (hbe : El D b) : ∀ n N, n + m ≤ N → D.ev (pmul D n a b) x N = D.mul (D.ev a x n) (D.ev b x m)
  | 0, N, _ => by rw [pmul, ev_nil F, FD.ev, zmul F]
  | n + 1, N, h => by
    rw [pmul, ev_add F x (el_mul F a b n) (el_sh F n (el_scale F _ _)), ev_mul F x hm hbe n N (by omega)]
    have e : D.ev (psh n (pscale D (a n) b)) x N = D.mul (D.xp x n) (D.mul (a n) (D.ev b x m)) := by
      rw [show N = n + (N - n) from by omega, ev_sh F x n, ev_scale F, ev_from F x hm (by omega)]
    rw [e, FD.ev, ad_mul F (ev_lt F a x n) (F.mul_lt _ _), ← F.mul_assoc (D.xp x n), F.mul_comm (D.xp x n) (a n)]
/-- Horner's way tells the same. -/
theorem val_ev {D : FD} (F : Fld D) {c : Nat → Nat} (x n : Nat) (hc : El D c) (hx : x < D.q) : ∀ k, k ≤ n → D.val c n x k = D.ev (fun i => c (n - k + i)) x k
  | 0, _ => rfl
  | k + 1, h => by
    have ih := val_ev F x n hc hx k (by omega)
    have split : ∀ m, D.ev (fun i => c (n - (k + 1) + i)) x (m + 1) = D.ad (c (n - (k + 1))) (D.mul (D.ev (fun i => c (n - k + i)) x m) x) := by
      intro m
      induction m with
      | zero =>
        show D.ad 0 (D.mul (c (n - (k + 1) + 0)) 1) = D.ad (c (n - (k + 1))) (D.mul 0 x)
        rw [Nat.add_zero, mul1 F (hc _), zmul F, zero_ad F (hc _), ad_zero F (hc _)]
      | succ m im =>
        rw [FD.ev, im]
        show D.ad (D.ad (c (n - (k + 1))) (D.mul (D.ev (fun i => c (n - k + i)) x m) x)) (D.mul (c (n - (k + 1) + (m + 1))) (D.xp x (m + 1))) = D.ad (c (n - (k + 1))) (D.mul (D.ad (D.ev (fun i => c (n - k + i)) x m) (D.mul (c (n - k + m)) (D.xp x m))) x)
        rw [ad_mul F (ev_lt F _ x m) (F.mul_lt _ _), ad_assoc F (hc _) (F.mul_lt _ _) (F.mul_lt _ _), show n - (k + 1) + (m + 1) = n - k + m from by omega, FD.xp, F.mul_assoc]
    rw [split k, FD.val, ih, show n - 1 - k = n - (k + 1) from by omega]
    exact ad_comm F _ _
theorem val_is {D : FD} (F : Fld D) {c : Nat → Nat} (x n : Nat) (hc : El D c) (hx : x < D.q) : D.val c n x n = D.ev c x n := by
  rw [val_ev F x n hc hx n (Nat.le_refl _), Nat.sub_self]
  congr 1
  funext i
  rw [Nat.zero_add]
end Go.Proofs.Ytcgmllamiaflcaa

/- The program's polynomials: lists of numbers, and what trim leaves. -/
namespace Go.Proofs.Ytcgmllamiaflcaa
open Go.RowKit

/-- The first n numbers of the slice that begins at ao are the coefficients c. -/
def Sl (ao : Option Addr) (n : Nat) (c : Nat → Nat) (w : World) : Prop := ∀ j, j < n → ∃ b off, ao = some ⟨b, off, none⟩ ∧ w.cell? ⟨b, off + j, none⟩ = some (.int .i64 (c j : Nat))
/-- A slice's memory lies below a block number. -/
def LtB (ao : Option Addr) (B : Nat) : Prop := ∀ x, ao = some x → x.block < B
theorem Sl.drewN {ao : Option Addr} {n : Nat} {c : Nat → Nat} {w : World} (h : Sl ao n c w) (k : Nat) : Sl ao n c (w.drewN k) := h
theorem Sl.less {ao : Option Addr} {n m : Nat} {c : Nat → Nat} {w : World} (h : Sl ao n c w) (hm : m ≤ n) : Sl ao m c w := fun j hj => h j (by omega)
theorem Sl.congr {ao : Option Addr} {n : Nat} {c d : Nat → Nat} {w : World} (h : Sl ao n c w) (e : ∀ j, j < n → c j = d j) : Sl ao n d w := fun j hj => by rw [← e j hj]; exact h j hj
theorem Sl.below {ao : Option Addr} {n B : Nat} {c : Nat → Nat} {w w' : World} (h : Sl ao n c w) (hb : Below B w w') (hB : LtB ao B) : Sl ao n c w' := fun j hj => by
  obtain ⟨b, off, rfl, hc⟩ := h j hj
  exact ⟨b, off, rfl, ((bcell hb).1 b (off + j) (hB _ rfl)).trans hc⟩
theorem LtB.mono {ao : Option Addr} {B C : Nat} (h : LtB ao B) (hBC : B ≤ C) : LtB ao C := fun x hx => Nat.lt_of_lt_of_le (h x hx) hBC
end Go.Proofs.Ytcgmllamiaflcaa
