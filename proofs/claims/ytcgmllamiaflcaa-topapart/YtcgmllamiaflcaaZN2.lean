/- Texts of ours, one behind the other: N2 N3. -/
import Derived.Test.YtcgmllamiaflcaaZN1
import Derived.Test.YtcgmllamiaflcaaZB6
/- Plain mathematics of polynomials, gone on: degrees, division, what is left, what divides. No Go text here. -/
namespace Go.Proofs.Ytcgmllamiaflcaa

theorem bd_nil_of {c : Nat → Nat} (h : Bd 0 c) : c = pnil := by funext k; exact h k (Nat.zero_le _)
theorem Bd.mono {c : Nat → Nat} {n m : Nat} (h : Bd n c) (hm : n ≤ m) : Bd m c := fun k hk => h k (by omega)

/-- One step of a division by b, whose last coefficient is at place l: the multiple of b that begins at i is taken away. -/
def dstep (D : FD) (b : Nat → Nat) (l inv i : Nat) (r : Nat → Nat) : Nat → Nat := psub D r (psh i (pscale D (D.mul (r (i + l)) inv) b))
def divR (D : FD) (b : Nat → Nat) (l inv : Nat) : Nat → (Nat → Nat) → Nat → Nat
  | 0, r => r
  | n + 1, r => divR D b l inv n (dstep D b l inv n r)
def divQ (D : FD) (b : Nat → Nat) (l inv : Nat) : Nat → (Nat → Nat) → Nat → Nat
  | 0, _ => pnil
  | n + 1, r => fun i => if i = n then D.mul (r (n + l)) inv else divQ D b l inv n (dstep D b l inv n r) i

theorem el_dstep {D : FD} (F : Fld D) {b r : Nat → Nat} {l inv i : Nat} (hr : El D r) : El D (dstep D b l inv i r) := el_sub F hr (el_sh F i (el_scale F _ _))
theorem el_divR {D : FD} (F : Fld D) {b : Nat → Nat} {l inv : Nat} : ∀ (n : Nat) {r : Nat → Nat}, El D r → El D (divR D b l inv n r)
  | 0, _, h => h
  | n + 1, _, h => el_divR F n (el_dstep F h)
theorem el_divQ {D : FD} (F : Fld D) {b : Nat → Nat} {l inv : Nat} : ∀ (n : Nat) (r : Nat → Nat), El D (divQ D b l inv n r)
  | 0, _ => el_nil F
  | n + 1, r => fun i => by
    rw [divQ]
    show (if i = n then D.mul (r (n + l)) inv else divQ D b l inv n (dstep D b l inv n r) i) < D.q
    split
    · exact F.mul_lt _ _
    · exact el_divQ F n _ i
theorem divQ_bd {D : FD} {b : Nat → Nat} {l inv : Nat} : ∀ (n : Nat) (r : Nat → Nat), Bd n (divQ D b l inv n r)
  | 0, _ => fun _ _ => rfl
  | n + 1, r => fun i hi => by
    rw [divQ]
    show (if i = n then D.mul (r (n + l)) inv else divQ D b l inv n (dstep D b l inv n r) i) = 0
    rw [if_neg (by omega)]
    exact divQ_bd n _ i (by omega)

theorem dstep_top {D : FD} (F : Fld D) {b r : Nat → Nat} {l inv n : Nat} (hr : El D r) (hi : D.mul (b l) inv = 1) : dstep D b l inv n r (n + l) = 0 := by
  show D.sb (r (n + l)) (psh n (pscale D (D.mul (r (n + l)) inv) b) (n + l)) = 0
  unfold psh pscale
  rw [if_pos (by omega), Nat.add_sub_cancel_left, F.mul_assoc, F.mul_comm inv, hi, mul1 F (hr _), sb_self F (hr _)]
theorem dstep_hi {D : FD} (F : Fld D) {b r : Nat → Nat} {l inv n k : Nat} (hr : El D r) (hb : Bd (l + 1) b) (hk : n + l < k) : dstep D b l inv n r k = r k := by
  show D.sb (r k) (psh n (pscale D (D.mul (r (n + l)) inv) b) k) = r k
  unfold psh pscale
  rw [if_pos (by omega), hb (k - n) (by omega), mul0 F, sb_zero F (hr _)]
theorem dstep_bd {D : FD} (F : Fld D) {b r : Nat → Nat} {l inv n : Nat} (hr : El D r) (_hbe : El D b) (hb : Bd (l + 1) b) (hi : D.mul (b l) inv = 1) (h : Bd (n + 1 + l) r) : Bd (n + l) (dstep D b l inv n r) := fun k hk => by
  by_cases e : k = n + l
  · rw [e]; exact dstep_top F hr hi
  · rw [dstep_hi F hr hb (by omega)]; exact h k (by omega)
theorem divR_bd {D : FD} (F : Fld D) {b : Nat → Nat} {l inv : Nat} (hbe : El D b) (hb : Bd (l + 1) b) (hi : D.mul (b l) inv = 1) : ∀ (n : Nat) {r : Nat → Nat}, El D r → Bd (n + l) r → Bd l (divR D b l inv n r)
  | 0, r, _, h => by rwa [Nat.zero_add] at h
  | n + 1, r, hr, h => divR_bd F hbe hb hi n (el_dstep F hr) (dstep_bd F hr hbe hb hi h)
theorem pmul_congr {D : FD} {a a' b : Nat → Nat} : ∀ n, (∀ i, i < n → a i = a' i) → pmul D n a b = pmul D n a' b
  | 0, _ => rfl
  | n + 1, h => by rw [pmul, pmul, pmul_congr n (fun i hi => h i (by omega)), h n (by omega)]
/-- What was divided is the quotient's product, and what is left. -/
theorem div_is {D : FD} (F : Fld D) {b : Nat → Nat} {l inv : Nat} : ∀ (n : Nat) {r : Nat → Nat}, El D r → padd D (pmul D n (divQ D b l inv n r) b) (divR D b l inv n r) = r
  | 0, r, h => nil_padd F h
  | n + 1, r, h => by
    have i := div_is F (b := b) (l := l) (inv := inv) n (el_dstep F (b := b) (l := l) (inv := inv) (i := n) h)
    have e : pmul D n (divQ D b l inv (n + 1) r) b = pmul D n (divQ D b l inv n (dstep D b l inv n r)) b := pmul_congr n (fun j hj => if_neg (by omega))
    have e2 : divQ D b l inv (n + 1) r n = D.mul (r (n + l)) inv := if_pos rfl
    have hY := el_sh F n (el_scale F (D.mul (r (n + l)) inv) b)
    rw [pmul, e, e2, padd_comm F (pmul D n _ b), padd_assoc F hY (el_mul F _ _ n) (el_divR F (n + 1) h), divR, i]
    exact psub_add F h hY

end Go.Proofs.Ytcgmllamiaflcaa

/- Plain mathematics of polynomials, gone on: with 1 at the end; common divisors, as they are looked for. No Go text here. -/
namespace Go.Proofs.Ytcgmllamiaflcaa

end Go.Proofs.Ytcgmllamiaflcaa
