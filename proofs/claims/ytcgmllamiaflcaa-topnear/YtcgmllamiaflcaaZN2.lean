/- Texts of ours, one behind the other: N2 N3 N4 U1. -/
import Derived.Test.YtcgmllamiaflcaaZN1
import Derived.Test.YtcgmllamiaflcaaZR5
/- Plain mathematics of polynomials, gone on: degrees, division, what is left, what divides. No Go text here. -/
namespace Go.Proofs.Ytcgmllamiaflcaa

/-- How many coefficients there are without noughts at the end, of the first n. -/
def dgn (c : Nat → Nat) : Nat → Nat
  | 0 => 0
  | n + 1 => if c n = 0 then dgn c n else n + 1
theorem dgn_le (c : Nat → Nat) : ∀ n, dgn c n ≤ n
  | 0 => Nat.le_refl _
  | n + 1 => by
    rw [dgn]; split
    · have := dgn_le c n; omega
    · omega
theorem dgn_zero (c : Nat → Nat) : ∀ n k, dgn c n ≤ k → k < n → c k = 0
  | 0, _, _, h => by omega
  | n + 1, k, h1, h2 => by
    rw [dgn] at h1
    split at h1
    · rename_i h
      by_cases e : k = n
      · rw [e]; exact h
      · exact dgn_zero c n k h1 (by omega)
    · omega
theorem dgn_bd {c : Nat → Nat} {n : Nat} (h : Bd n c) : Bd (dgn c n) c := fun k hk => by
  by_cases e : k < n
  · exact dgn_zero c n k hk e
  · exact h k (by omega)
theorem dgn_top (c : Nat → Nat) : ∀ n, dgn c n ≠ 0 → c (dgn c n - 1) ≠ 0
  | 0, h => absurd rfl h
  | n + 1, h => by
    rw [dgn] at h ⊢
    split
    · rename_i e
      rw [if_pos e] at h
      exact dgn_top c n h
    · rename_i e
      exact e
theorem dgn_self {c : Nat → Nat} {n : Nat} (h : n ≠ 0 → c (n - 1) ≠ 0) : dgn c n = n := by
  cases n with
  | zero => rfl
  | succ n =>
    have h := h (by omega)
    rw [Nat.add_sub_cancel] at h
    rw [dgn, if_neg h]
theorem dgn_to {c : Nat → Nat} {n : Nat} (h : Bd n c) : ∀ k, dgn c (n + k) = dgn c n
  | 0 => rfl
  | k + 1 => by rw [← Nat.add_assoc, dgn, if_pos (h (n + k) (by omega)), dgn_to h k]
theorem dgn_from {c : Nat → Nat} {n N : Nat} (h : Bd n c) (hn : n ≤ N) : dgn c N = dgn c n := by
  have := dgn_to h (N - n)
  rwa [show n + (N - n) = N from by omega] at this
theorem bd_nil_of {c : Nat → Nat} (h : Bd 0 c) : c = pnil := by funext k; exact h k (Nat.zero_le _)
theorem Bd.mono {c : Nat → Nat} {n m : Nat} (h : Bd n c) (hm : n ≤ m) : Bd m c := fun k hk => h k (by omega)

/-- One step of a division by b, whose last coefficient is at place l: the multiple of b that begins at i is taken away. -/
def dstep (D : FD) (b : Nat → Nat) (l inv i : Nat) (r : Nat → Nat) : Nat → Nat := psub D r (psh i (pscale D (D.mul (r (i + l)) inv) b))
def divR (D : FD) (b : Nat → Nat) (l inv : Nat) : Nat → (Nat → Nat) → Nat → Nat
  | 0, r => r
  | n + 1, r => divR D b l inv n (dstep D b l inv n r)
def divQ (D : FD) (b : Nat → Nat) (l inv : Nat) : Nat → (Nat → Nat) → Nat → Nat
  | 0, _ => pnil
  | n + 1, r => fun i => if i = n then D.mul (r (n + l)) inv else divQ D b l inv n (dstep D b l inv n r) i

theorem el_dstep {D : FD} (F : Fld D) {b r : Nat → Nat} {l inv i : Nat} (hr : El D r) : El D (dstep D b l inv i r) := el_sub F hr (el_sh F i (el_scale F _ _))
theorem el_divR {D : FD} (F : Fld D) {b : Nat → Nat} {l inv : Nat} : ∀ (n : Nat) {r : Nat → Nat}, El D r → El D (divR D b l inv n r)
  | 0, _, h => h
  | n + 1, _, h => el_divR F n (el_dstep F h)
theorem el_divQ {D : FD} (F : Fld D) {b : Nat → Nat} {l inv : Nat} : ∀ (n : Nat) (r : Nat → Nat), El D (divQ D b l inv n r)
  | 0, _ => el_nil F
  | n + 1, r => fun i => by
    rw [divQ]
    show (if i = n then D.mul (r (n + l)) inv else divQ D b l inv n (dstep D b l inv n r) i) < D.q
    split
    · exact F.mul_lt _ _
    · exact el_divQ F n _ i
theorem divQ_bd {D : FD} {b : Nat → Nat} {l inv : Nat} : ∀ (n : Nat) (r : Nat → Nat), Bd n (divQ D b l inv n r)
  | 0, _ => fun _ _ => rfl
  | n + 1, r => fun i hi => by
    rw [divQ]
    show (if i = n then D.mul (r (n + l)) inv else divQ D b l inv n (dstep D b l inv n r) i) = 0
    rw [if_neg (by omega)]
    exact divQ_bd n _ i (by omega)

theorem dstep_top {D : FD} (F : Fld D) {b r : Nat → Nat} {l inv n : Nat} (hr : El D r) (hi : D.mul (b l) inv = 1) : dstep D b l inv n r (n + l) = 0 := by
  show D.sb (r (n + l)) (psh n (pscale D (D.mul (r (n + l)) inv) b) (n + l)) = 0
  unfold psh pscale
  rw [if_pos (by omega), Nat.add_sub_cancel_left, F.mul_assoc, F.mul_comm inv, hi, mul1 F (hr _), sb_self F (hr _)]
theorem dstep_hi {D : FD} (F : Fld D) {b r : Nat → Nat} {l inv n k : Nat} (hr : El D r) (hb : Bd (l + 1) b) (hk : n + l < k) : dstep D b l inv n r k = r k := by
  show D.sb (r k) (psh n (pscale D (D.mul (r (n + l)) inv) b) k) = r k
  unfold psh pscale
  rw [if_pos (by omega), hb (k - n) (by omega), mul0 F, sb_zero F (hr _)]
theorem dstep_bd {D : FD} (F : Fld D) {b r : Nat → Nat} {l inv n : Nat} (hr : El D r) (_hbe : El D b) (hb : Bd (l + 1) b) (hi : D.mul (b l) inv = 1) (h : Bd (n + 1 + l) r) : Bd (n + l) (dstep D b l inv n r) := fun k hk => by
  by_cases e : k = n + l
  · rw [e]; exact dstep_top F hr hi
  · rw [dstep_hi F hr hb (by omega)]; exact h k (by omega)
theorem divR_bd {D : FD} (F : Fld D) {b : Nat → Nat} {l inv : Nat} (hbe : El D b) (hb : Bd (l + 1) b) (hi : D.mul (b l) inv = 1) : ∀ (n : Nat) {r : Nat → Nat}, El D r → Bd (n + l) r → Bd l (divR D b l inv n r)
  | 0, r, _, h => by rwa [Nat.zero_add] at h
  | n + 1, r, hr, h => divR_bd F hbe hb hi n (el_dstep F hr) (dstep_bd F hr hbe hb hi h)
theorem pmul_congr {D : FD} {a a' b : Nat → Nat} : ∀ n, (∀ i, i < n → a i = a' i) → pmul D n a b = pmul D n a' b
  | 0, _ => rfl
  | n + 1, h => by rw [pmul, pmul, pmul_congr n (fun i hi => h i (by omega)), h n (by omega)]
/-- What was divided is the quotient's product, and what is left. -/
theorem div_is {D : FD} (F : Fld D) {b : Nat → Nat} {l inv : Nat} : ∀ (n : Nat) {r : Nat → Nat}, El D r → padd D (pmul D n (divQ D b l inv n r) b) (divR D b l inv n r) = r
  | 0, r, h => nil_padd F h
  | n + 1, r, h => by
    have i := div_is F (b := b) (l := l) (inv := inv) n (el_dstep F (b := b) (l := l) (inv := inv) (i := n) h)
    have e : pmul D n (divQ D b l inv (n + 1) r) b = pmul D n (divQ D b l inv n (dstep D b l inv n r)) b := pmul_congr n (fun j hj => if_neg (by omega))
    have e2 : divQ D b l inv (n + 1) r n = D.mul (r (n + l)) inv := if_pos rfl
    have hY := el_sh F n (el_scale F (D.mul (r (n + l)) inv) b)
    rw [pmul, e, e2, padd_comm F (pmul D n _ b), padd_assoc F hY (el_mul F _ _ n) (el_divR F (n + 1) h), divR, i]
    exact psub_add F h hY

end Go.Proofs.Ytcgmllamiaflcaa

/- Plain mathematics of polynomials, gone on: with 1 at the end; common divisors, as they are looked for. No Go text here. -/
namespace Go.Proofs.Ytcgmllamiaflcaa

/-- What undoes an element. -/
def FD.iv (D : FD) (x : Nat) : Nat := D.pw x (D.q - 2)
theorem iv_lt {D : FD} (hD : D ∈ fieldsL) (x : Nat) : D.iv x < D.q := pw_lt hD x _
theorem iv_is {D : FD} (hD : D ∈ fieldsL) {x : Nat} (hx : x < D.q) (h0 : x ≠ 0) : D.mul x (D.iv x) = 1 := inv_is hD hx h0
/-- No noughts at the end. -/
def Trd (n : Nat) (c : Nat → Nat) : Prop := Bd n c ∧ (n ≠ 0 → c (n - 1) ≠ 0)
theorem trd_dgn {c : Nat → Nat} {n : Nat} (h : Bd n c) : Trd (dgn c n) c := ⟨dgn_bd h, dgn_top c n⟩
theorem Trd.dgn {c : Nat → Nat} {n N : Nat} (h : Trd n c) (hN : n ≤ N) : Go.Proofs.Ytcgmllamiaflcaa.dgn c N = n := by
  rw [dgn_from h.1 hN]; exact dgn_self h.2

end Go.Proofs.Ytcgmllamiaflcaa

/- Plain mathematics of polynomials, gone on: values of sums and products. No Go text here. -/
namespace Go.Proofs.Ytcgmllamiaflcaa

/-- x to the power k. -/
def FD.xp (D : FD) (x : Nat) : Nat → Nat
  | 0 => 1
  | k + 1 => D.mul (D.xp x k) x
theorem xp_lt {D : FD} (F : Fld D) (x : Nat) : ∀ k, D.xp x k < D.q
  | 0 => one_lt' F
  | _ + 1 => F.mul_lt _ _
theorem xp_add {D : FD} (F : Fld D) (x i : Nat) : ∀ k, D.xp x (i + k) = D.mul (D.xp x i) (D.xp x k)
  | 0 => (mul1 F (xp_lt F x i)).symm
  | k + 1 => by rw [← Nat.add_assoc, FD.xp, xp_add F x i k, FD.xp, F.mul_assoc]
/-- The value at x of the first n coefficients. -/
def FD.ev (D : FD) (c : Nat → Nat) (x : Nat) : Nat → Nat
  | 0 => 0
  | n + 1 => D.ad (D.ev c x n) (D.mul (c n) (D.xp x n))
theorem ev_lt {D : FD} (F : Fld D) (c : Nat → Nat) (x : Nat) : ∀ n, D.ev c x n < D.q
  | 0 => zero_lt' F
  | n + 1 => ad_lt F (ev_lt F c x n) (F.mul_lt _ _)
theorem ev_add {D : FD} (F : Fld D) {a b : Nat → Nat} (x : Nat) (ha : El D a) (hb : El D b) : ∀ n, D.ev (padd D a b) x n = D.ad (D.ev a x n) (D.ev b x n)
  | 0 => (ad_zero F (zero_lt' F)).symm
  | n + 1 => by
    show D.ad (D.ev (padd D a b) x n) (D.mul (D.ad (a n) (b n)) (D.xp x n)) = _
    rw [ev_add F x ha hb n, ad_mul F (ha n) (hb n)]
    exact ad4 F (ev_lt F a x n) (ev_lt F b x n) (F.mul_lt _ _) (F.mul_lt _ _)
theorem ev_scale {D : FD} (F : Fld D) (s x : Nat) (b : Nat → Nat) : ∀ n, D.ev (pscale D s b) x n = D.mul s (D.ev b x n)
  | 0 => (mul0 F s).symm
  | n + 1 => by
    show D.ad (D.ev (pscale D s b) x n) (D.mul (D.mul s (b n)) (D.xp x n)) = D.mul s (D.ad (D.ev b x n) (D.mul (b n) (D.xp x n)))
    rw [ev_scale F s x b n, mul_ad F (ev_lt F b x n) (F.mul_lt _ _), F.mul_assoc]
theorem ev_to {D : FD} (F : Fld D) {c : Nat → Nat} {n : Nat} (x : Nat) (h : Bd n c) : ∀ k, D.ev c x (n + k) = D.ev c x n
  | 0 => rfl
  | k + 1 => by
    rw [← Nat.add_assoc]
    show D.ad (D.ev c x (n + k)) (D.mul (c (n + k)) (D.xp x (n + k))) = _
    rw [ev_to F x h k, h (n + k) (by omega), zmul F, ad_zero F (ev_lt F c x n)]
theorem ev_from {D : FD} (F : Fld D) {c : Nat → Nat} {n N : Nat} (x : Nat) (h : Bd n c) (hn : n ≤ N) : D.ev c x N = D.ev c x n := by
  have := ev_to F x h (N - n)
  rwa [show n + (N - n) = N from by omega] at this
theorem ev_nil {D : FD} (F : Fld D) (x : Nat) : ∀ n, D.ev pnil x n = 0
  | 0 => rfl
  | n + 1 => by
    show D.ad (D.ev pnil x n) (D.mul 0 (D.xp x n)) = 0
    rw [ev_nil F x n, zmul F, ad_zero F (zero_lt' F)]
theorem ev_sh_lo {D : FD} (F : Fld D) {b : Nat → Nat} (x i : Nat) : ∀ n, n ≤ i → D.ev (psh i b) x n = 0
  | 0, _ => rfl
  | n + 1, h => by
    show D.ad (D.ev (psh i b) x n) (D.mul (psh i b n) (D.xp x n)) = 0
    rw [ev_sh_lo F x i n (by omega), show psh i b n = 0 from by unfold psh; exact if_neg (by omega), zmul F, ad_zero F (zero_lt' F)]
theorem ev_sh {D : FD} (F : Fld D) {b : Nat → Nat} (x i : Nat) : ∀ n, D.ev (psh i b) x (i + n) = D.mul (D.xp x i) (D.ev b x n)
  | 0 => by rw [Nat.add_zero, ev_sh_lo F x i i (Nat.le_refl _)]; exact (mul0 F _).symm
  | n + 1 => by
    rw [← Nat.add_assoc]
    show D.ad (D.ev (psh i b) x (i + n)) (D.mul (psh i b (i + n)) (D.xp x (i + n))) = D.mul (D.xp x i) (D.ad (D.ev b x n) (D.mul (b n) (D.xp x n)))
    rw [ev_sh F x i n, show psh i b (i + n) = b n from by unfold psh; rw [if_pos (by omega), Nat.add_sub_cancel_left], xp_add F, mul_ad F (ev_lt F b x n) (F.mul_lt _ _), ← F.mul_assoc (b n), F.mul_comm (b n) (D.xp x i), F.mul_assoc]
/-- The value of a product is the product of the values. -/
theorem ev_mul {D : FD} (F : Fld D) {a b : Nat → Nat} (x : Nat) {m : Nat} (hm : Bd m b) (hbe : El D b) : ∀ n N, n + m ≤ N → D.ev (pmul D n a b) x N = D.mul (D.ev a x n) (D.ev b x m)
  | 0, N, _ => by rw [pmul, ev_nil F, FD.ev, zmul F]
  | n + 1, N, h => by
    rw [pmul, ev_add F x (el_mul F a b n) (el_sh F n (el_scale F _ _)), ev_mul F x hm hbe n N (by omega)]
    have e : D.ev (psh n (pscale D (a n) b)) x N = D.mul (D.xp x n) (D.mul (a n) (D.ev b x m)) := by
      rw [show N = n + (N - n) from by omega, ev_sh F x n, ev_scale F, ev_from F x hm (by omega)]
    rw [e, FD.ev, ad_mul F (ev_lt F a x n) (F.mul_lt _ _), ← F.mul_assoc (D.xp x n), F.mul_comm (D.xp x n) (a n)]
/-- Horner's way tells the same. -/
theorem val_ev {D : FD} (F : Fld D) {c : Nat → Nat} (x n : Nat) (hc : El D c) (hx : x < D.q) : ∀ k, k ≤ n → D.val c n x k = D.ev (fun i => c (n - k + i)) x k
  | 0, _ => rfl
  | k + 1, h => by
    have ih := val_ev F x n hc hx k (by omega)
    have split : ∀ m, D.ev (fun i => c (n - (k + 1) + i)) x (m + 1) = D.ad (c (n - (k + 1))) (D.mul (D.ev (fun i => c (n - k + i)) x m) x) := by
      intro m
      induction m with
      | zero =>
        show D.ad 0 (D.mul (c (n - (k + 1) + 0)) 1) = D.ad (c (n - (k + 1))) (D.mul 0 x)
        rw [Nat.add_zero, mul1 F (hc _), zmul F, zero_ad F (hc _), ad_zero F (hc _)]
      | succ m im =>
        rw [FD.ev, im]
        show D.ad (D.ad (c (n - (k + 1))) (D.mul (D.ev (fun i => c (n - k + i)) x m) x)) (D.mul (c (n - (k + 1) + (m + 1))) (D.xp x (m + 1))) = D.ad (c (n - (k + 1))) (D.mul (D.ad (D.ev (fun i => c (n - k + i)) x m) (D.mul (c (n - k + m)) (D.xp x m))) x)
        rw [ad_mul F (ev_lt F _ x m) (F.mul_lt _ _), ad_assoc F (hc _) (F.mul_lt _ _) (F.mul_lt _ _), show n - (k + 1) + (m + 1) = n - k + m from by omega, FD.xp, F.mul_assoc]
    rw [split k, FD.val, ih, show n - 1 - k = n - (k + 1) from by omega]
    exact ad_comm F _ _
theorem val_is {D : FD} (F : Fld D) {c : Nat → Nat} (x n : Nat) (hc : El D c) (hx : x < D.q) : D.val c n x n = D.ev c x n := by
  rw [val_ev F x n hc hx n (Nat.le_refl _), Nat.sub_self]
  congr 1
  funext i
  rw [Nat.zero_add]
end Go.Proofs.Ytcgmllamiaflcaa

/- The program's polynomials: lists of numbers, and what trim leaves. -/
namespace Go.Proofs.Ytcgmllamiaflcaa
open Go.RowKit

/-- The first n numbers of the slice that begins at ao are the coefficients c. -/
def Sl (ao : Option Addr) (n : Nat) (c : Nat → Nat) (w : World) : Prop := ∀ j, j < n → ∃ b off, ao = some ⟨b, off, none⟩ ∧ w.cell? ⟨b, off + j, none⟩ = some (.int .i64 (c j : Nat))
/-- A slice's memory lies below a block number. -/
def LtB (ao : Option Addr) (B : Nat) : Prop := ∀ x, ao = some x → x.block < B
/-- A slice's memory lies behind a block number. -/
def GeB (ao : Option Addr) (B : Nat) : Prop := ∀ x, ao = some x → B ≤ x.block

theorem Sl.drewN {ao : Option Addr} {n : Nat} {c : Nat → Nat} {w : World} (h : Sl ao n c w) (k : Nat) : Sl ao n c (w.drewN k) := h
theorem Sl.less {ao : Option Addr} {n m : Nat} {c : Nat → Nat} {w : World} (h : Sl ao n c w) (hm : m ≤ n) : Sl ao m c w := fun j hj => h j (by omega)
theorem Sl.congr {ao : Option Addr} {n : Nat} {c d : Nat → Nat} {w : World} (h : Sl ao n c w) (e : ∀ j, j < n → c j = d j) : Sl ao n d w := fun j hj => by rw [← e j hj]; exact h j hj
theorem Sl.below {ao : Option Addr} {n B : Nat} {c : Nat → Nat} {w w' : World} (h : Sl ao n c w) (hb : Below B w w') (hB : LtB ao B) : Sl ao n c w' := fun j hj => by
  obtain ⟨b, off, rfl, hc⟩ := h j hj
  exact ⟨b, off, rfl, ((bcell hb).1 b (off + j) (hB _ rfl)).trans hc⟩
theorem LtB.mono {ao : Option Addr} {B C : Nat} (h : LtB ao B) (hBC : B ≤ C) : LtB ao C := fun x hx => Nat.lt_of_lt_of_le (h x hx) hBC
theorem GeB.mono {ao : Option Addr} {B C : Nat} (h : GeB ao C) (hBC : B ≤ C) : GeB ao B := fun x hx => Nat.le_trans hBC (h x hx)

set_option maxHeartbeats 1000000 in
theorem trim_any {ao : Option Addr} {n cap : Nat} {c : Nat → Nat} {w : World} (h : Sl ao n c w) (hn : n ≤ cap) (hcap : cap ≤ 9223372036854775807) :
    Calls Try.prog 78 #[.slice ao n cap] w fun e w' => e = .returned (.slice ao (dgn c n) cap) ∧ ∃ k, w' = w.drewN k := by
  have HS : Hid (Sl ao n c w) := h
  clear h
  go_enter Try.func78, Try.ntmps78
  go_wp2
  go_loopw [3] (fun i wr => ∃ m : Nat, m ≤ n ∧ i = .int .i64 m ∧ Hid (dgn c n = dgn c m) ∧ ∃ d, wr = w.drewN d) (fun i _ => (intOf i).toNat)
  case atStart => exact ⟨n, Nat.le_refl _, rfl, rfl, 0, rfl⟩
  case round =>
    obtain ⟨m, hm, rfl, HD, d, rfl⟩ := hrel
    cases m with
    | zero =>
      have HE : Hid (dgn c n = 0) := HD.out
      cases ao with
      | none =>
        go_wp2
        go_ret
        exact ⟨by rw [HE.out]; rfl, _, rfl⟩
      | some x =>
        go_wp2
        go_ret
        exact ⟨by rw [HE.out]; rfl, _, rfl⟩
    | succ m =>
      obtain ⟨b, off, rfl, hc⟩ := HS.out m (by omega)
      by_cases h0 : c m = 0
      · have HE : Hid (dgn c n = dgn c m) := by show _ = _; rw [HD.out, dgn, if_pos h0]
        have hz : (((c m : Nat) : Int) == 0) = true := by rw [h0]; rfl
        clear h0
        go_wp2
        go_roundw
        case rel => exact ⟨m, by omega, by go_num, HE.out, _, rfl⟩
        case measure => simp [intOf]
      · have HE : Hid (dgn c n = m + 1) := by show _ = _; rw [HD.out, dgn, if_neg h0]
        have hz : (((c m : Nat) : Int) == 0) = false := by rw [beq_eq_false_iff_ne]; omega
        clear h0
        go_wp2
        go_ret
        exact ⟨by rw [HE.out]; rfl, _, rfl⟩
end Go.Proofs.Ytcgmllamiaflcaa
