/- Texts of ours, one behind the other: N2 N3 N4 U1. -/
import Derived.Test.YtjkncdmbcckcdaaZN1
import Derived.Test.YtjkncdmbcckcdaaZR9
/- Plain mathematics of polynomials, gone on: degrees, division, what is left, what divides. No Go text here. -/
namespace Go.Proofs.Ytjkncdmbcckcdaa

/-- How many coefficients there are without noughts at the end, of the first n. -/
def dgn (c : Nat → Nat) : Nat → Nat
  | 0 => 0
  | n + 1 => if c n = 0 then dgn c n else n + 1
theorem dgn_le (c : Nat → Nat) : ∀ n, dgn c n ≤ n
  | 0 => Nat.le_refl _
  | n + 1 => by
    rw [dgn]; split
    · have := dgn_le c n; omega
    · omega
theorem dgn_zero (c : Nat → Nat) : ∀ n k, dgn c n ≤ k → k < n → c k = 0
  | 0, _, _, h => by omega
  | n + 1, k, h1, h2 => by
    rw [dgn] at h1
    split at h1
    · rename_i h
      by_cases e : k = n
      · rw [e]; exact h
      · exact dgn_zero c n k h1 (by omega)
    · omega
theorem dgn_bd {c : Nat → Nat} {n : Nat} (h : Bd n c) : Bd (dgn c n) c := fun k hk => by
  by_cases e : k < n
  · exact dgn_zero c n k hk e
  · exact h k (by omega)
theorem dgn_top (c : Nat → Nat) : ∀ n, dgn c n ≠ 0 → c (dgn c n - 1) ≠ 0
  | 0, h => absurd rfl h
  | n + 1, h => by
    rw [dgn] at h ⊢
    split
    · rename_i e
      rw [if_pos e] at h
      exact dgn_top c n h
    · rename_i e
      exact e
theorem dgn_is {c : Nat → Nat} {n m : Nat} (hn : Bd n c) (h0 : Bd m c) (ht : m ≠ 0 → c (m - 1) ≠ 0) : dgn c n = m := by
  have h1 := dgn_bd hn
  rcases Nat.lt_trichotomy (dgn c n) m with h | h | h
  · exact absurd (h1 (m - 1) (by omega)) (ht (by omega))
  · exact h
  · exact absurd (h0 (dgn c n - 1) (by omega)) (dgn_top c n (by omega))
theorem dgn_self {c : Nat → Nat} {n : Nat} (h : n ≠ 0 → c (n - 1) ≠ 0) : dgn c n = n := by
  cases n with
  | zero => rfl
  | succ n =>
    have h := h (by omega)
    rw [Nat.add_sub_cancel] at h
    rw [dgn, if_neg h]
theorem bd_nil_of {c : Nat → Nat} (h : Bd 0 c) : c = pnil := by funext k; exact h k (Nat.zero_le _)
theorem Bd.mono {c : Nat → Nat} {n m : Nat} (h : Bd n c) (hm : n ≤ m) : Bd m c := fun k hk => h k (by omega)

/-- One step of a division by b, whose last coefficient is at place l: the multiple of b that begins at i is taken away. -/
def dstep (D : FD) (b : Nat → Nat) (l inv i : Nat) (r : Nat → Nat) : Nat → Nat := psub D r (psh i (pscale D (D.mul (r (i + l)) inv) b))
def divR (D : FD) (b : Nat → Nat) (l inv : Nat) : Nat → (Nat → Nat) → Nat → Nat
  | 0, r => r
  | n + 1, r => divR D b l inv n (dstep D b l inv n r)
def divQ (D : FD) (b : Nat → Nat) (l inv : Nat) : Nat → (Nat → Nat) → Nat → Nat
  | 0, _ => pnil
  | n + 1, r => fun i => if i = n then D.mul (r (n + l)) inv else divQ D b l inv n (dstep D b l inv n r) i

theorem el_dstep {D : FD} (F : Fld D) {b r : Nat → Nat} {l inv i : Nat} (hr : El D r) : El D (dstep D b l inv i r) := el_sub F hr (el_sh F i (el_scale F _ _))
theorem el_divR {D : FD} (F : Fld D) {b : Nat → Nat} {l inv : Nat} : ∀ (n : Nat) {r : Nat → Nat}, El D r → El D (divR D b l inv n r)
  | 0, _, h => h
  | n + 1, _, h => el_divR F n (el_dstep F h)
theorem el_divQ {D : FD} (F : Fld D) {b : Nat → Nat} {l inv : Nat} : ∀ (n : Nat) (r : Nat → Nat), El D (divQ D b l inv n r)
  | 0, _ => el_nil F
  | n + 1, r => fun i => by
    rw [divQ]
    show (if i = n then D.mul (r (n + l)) inv else divQ D b l inv n (dstep D b l inv n r) i) < D.q
    split
    · exact F.mul_lt _ _
    · exact el_divQ F n _ i
theorem divQ_bd {D : FD} {b : Nat → Nat} {l inv : Nat} : ∀ (n : Nat) (r : Nat → Nat), Bd n (divQ D b l inv n r)
  | 0, _ => fun _ _ => rfl
  | n + 1, r => fun i hi => by
    rw [divQ]
    show (if i = n then D.mul (r (n + l)) inv else divQ D b l inv n (dstep D b l inv n r) i) = 0
    rw [if_neg (by omega)]
    exact divQ_bd n _ i (by omega)

theorem dstep_top {D : FD} (F : Fld D) {b r : Nat → Nat} {l inv n : Nat} (hr : El D r) (hi : D.mul (b l) inv = 1) : dstep D b l inv n r (n + l) = 0 := by
  show D.sb (r (n + l)) (psh n (pscale D (D.mul (r (n + l)) inv) b) (n + l)) = 0
  unfold psh pscale
  rw [if_pos (by omega), Nat.add_sub_cancel_left, F.mul_assoc, F.mul_comm inv, hi, mul1 F (hr _), sb_self F (hr _)]
theorem dstep_hi {D : FD} (F : Fld D) {b r : Nat → Nat} {l inv n k : Nat} (hr : El D r) (hb : Bd (l + 1) b) (hk : n + l < k) : dstep D b l inv n r k = r k := by
  show D.sb (r k) (psh n (pscale D (D.mul (r (n + l)) inv) b) k) = r k
  unfold psh pscale
  rw [if_pos (by omega), hb (k - n) (by omega), mul0 F, sb_zero F (hr _)]
theorem dstep_lo {D : FD} (F : Fld D) {b r : Nat → Nat} {l inv n k : Nat} (hr : El D r) (hk : k < n) : dstep D b l inv n r k = r k := by
  show D.sb (r k) (psh n (pscale D (D.mul (r (n + l)) inv) b) k) = r k
  unfold psh
  rw [if_neg (by omega), sb_zero F (hr _)]
theorem dstep_at {D : FD} {b r : Nat → Nat} {l inv n : Nat} (j : Nat) : dstep D b l inv n r (n + j) = D.sb (r (n + j)) (D.mul (D.mul (r (n + l)) inv) (b j)) := by
  show D.sb (r (n + j)) (psh n (pscale D (D.mul (r (n + l)) inv) b) (n + j)) = _
  unfold psh pscale
  rw [if_pos (by omega), Nat.add_sub_cancel_left]
theorem dstep_bd {D : FD} (F : Fld D) {b r : Nat → Nat} {l inv n : Nat} (hr : El D r) (_hbe : El D b) (hb : Bd (l + 1) b) (hi : D.mul (b l) inv = 1) (h : Bd (n + 1 + l) r) : Bd (n + l) (dstep D b l inv n r) := fun k hk => by
  by_cases e : k = n + l
  · rw [e]; exact dstep_top F hr hi
  · rw [dstep_hi F hr hb (by omega)]; exact h k (by omega)
theorem divR_bd {D : FD} (F : Fld D) {b : Nat → Nat} {l inv : Nat} (hbe : El D b) (hb : Bd (l + 1) b) (hi : D.mul (b l) inv = 1) : ∀ (n : Nat) {r : Nat → Nat}, El D r → Bd (n + l) r → Bd l (divR D b l inv n r)
  | 0, r, _, h => by rwa [Nat.zero_add] at h
  | n + 1, r, hr, h => divR_bd F hbe hb hi n (el_dstep F hr) (dstep_bd F hr hbe hb hi h)
theorem pmul_congr {D : FD} {a a' b : Nat → Nat} : ∀ n, (∀ i, i < n → a i = a' i) → pmul D n a b = pmul D n a' b
  | 0, _ => rfl
  | n + 1, h => by rw [pmul, pmul, pmul_congr n (fun i hi => h i (by omega)), h n (by omega)]
/-- What was divided is the quotient's product, and what is left. -/
theorem div_is {D : FD} (F : Fld D) {b : Nat → Nat} {l inv : Nat} : ∀ (n : Nat) {r : Nat → Nat}, El D r → padd D (pmul D n (divQ D b l inv n r) b) (divR D b l inv n r) = r
  | 0, r, h => nil_padd F h
  | n + 1, r, h => by
    have i := div_is F (b := b) (l := l) (inv := inv) n (el_dstep F (b := b) (l := l) (inv := inv) (i := n) h)
    have e : pmul D n (divQ D b l inv (n + 1) r) b = pmul D n (divQ D b l inv n (dstep D b l inv n r)) b := pmul_congr n (fun j hj => if_neg (by omega))
    have e2 : divQ D b l inv (n + 1) r n = D.mul (r (n + l)) inv := if_pos rfl
    have hY := el_sh F n (el_scale F (D.mul (r (n + l)) inv) b)
    rw [pmul, e, e2, padd_comm F (pmul D n _ b), padd_assoc F hY (el_mul F _ _ n) (el_divR F (n + 1) h), divR, i]
    exact psub_add F h hY

theorem dstep_skip {D : FD} (F : Fld D) {b r : Nat → Nat} {l inv n : Nat} (hr : El D r) (h0 : r (n + l) = 0) : dstep D b l inv n r = r := by
  unfold dstep
  rw [h0, zmul F, pscale_zero F, psh_nil, psub_nil F hr]
theorem div_skip {D : FD} (F : Fld D) {b r : Nat → Nat} {l inv n : Nat} (hr : El D r) (h0 : r (n + l) = 0) : divR D b l inv (n + 1) r = divR D b l inv n r ∧ divQ D b l inv (n + 1) r = divQ D b l inv n r := by
  refine ⟨by rw [divR, dstep_skip F hr h0], ?_⟩
  rw [divQ, dstep_skip F hr h0, h0, zmul F]
  funext i
  show (if i = n then 0 else divQ D b l inv n r i) = _
  split
  · rename_i e; rw [e]; exact (divQ_bd n r n (Nat.le_refl _)).symm
  · rfl
theorem div_to {D : FD} (F : Fld D) {b r : Nat → Nat} {l inv n : Nat} (hr : El D r) (h : Bd (n + l) r) : ∀ k, divR D b l inv (n + k) r = divR D b l inv n r ∧ divQ D b l inv (n + k) r = divQ D b l inv n r
  | 0 => ⟨rfl, rfl⟩
  | k + 1 => by
    have s := div_skip F (b := b) (l := l) (inv := inv) (n := n + k) hr (h _ (by omega))
    have t := div_to F (b := b) (inv := inv) hr h k
    rw [← Nat.add_assoc]
    exact ⟨s.1.trans t.1, s.2.trans t.2⟩
theorem div_from {D : FD} (F : Fld D) {b r : Nat → Nat} {l inv n N : Nat} (hr : El D r) (h : Bd (n + l) r) (hn : n ≤ N) : divR D b l inv N r = divR D b l inv n r ∧ divQ D b l inv N r = divQ D b l inv n r := by
  have := div_to F (b := b) (inv := inv) hr h (N - n)
  rwa [show n + (N - n) = N from by omega] at this

theorem pmul_zero_of {D : FD} (F : Fld D) {b : Nat → Nat} {l : Nat} (hb : Bd (l + 1) b) (hl : b l ≠ 0) : ∀ (n : Nat) {S : Nat → Nat}, Bd n S → Bd l (pmul D n S b) → S = pnil
  | 0, _, hS, _ => bd_nil_of hS
  | n + 1, S, hS, h => by
    have h1 := h (n + l) (by omega)
    rw [pmul_top F hb] at h1
    have h0 : S n = 0 := by
      by_cases e : S n = 0
      · exact e
      · exact absurd h1 (F.mul_ne _ _ e hl).1
    have hS' : Bd n S := fun k hk => if e : k = n then by rw [e]; exact h0 else hS k (by omega)
    rw [pmul_to F b hS' (by omega)] at h
    exact pmul_zero_of F hb hl n hS' h
/-- There is one quotient alone, and one rest. -/
theorem div_uniq {D : FD} (F : Fld D) {b Q Q' R R' : Nat → Nat} {l n : Nat} (hb : Bd (l + 1) b) (hl : b l ≠ 0) (eQ : El D Q) (eQ' : El D Q') (eR : El D R) (eR' : El D R')
    (hQ : Bd n Q) (hQ' : Bd n Q') (hR : Bd l R) (hR' : Bd l R') (h : padd D (pmul D n Q b) R = padd D (pmul D n Q' b) R') : Q = Q' ∧ R = R' := by
  have hS : psub D Q Q' = pnil := by
    have eS := el_sub F eQ eQ'
    refine pmul_zero_of F hb hl n (fun k hk => ?_) ?_
    · show D.sb (Q k) (Q' k) = 0
      rw [hQ k hk, hQ' k hk, sb_self F (zero_lt' F)]
    · have e : pmul D n Q b = padd D (pmul D n Q' b) (pmul D n (psub D Q Q') b) := by
        rw [← pmul_add_l F eQ' eS, psub_add F eQ eQ']
      rw [e, padd_assoc F (el_mul F _ _ n) (el_mul F _ _ n) eR] at h
      have h2 := padd_cancel F (el_mul F _ _ n) (el_add F (el_mul F _ _ n) eR) eR' h
      intro k hk
      have h3 := congrFun h2 k
      rw [hR' k hk] at h3
      have h4 : D.ad (pmul D n (psub D Q Q') b k) (R k) = 0 := h3
      rwa [hR k hk, ad_zero F (el_mul F _ _ n k)] at h4
  have hq := psub_eq_nil F eQ eQ' hS
  refine ⟨hq, ?_⟩
  rw [hq] at h
  exact padd_cancel F (el_mul F _ _ n) eR eR' h

/-- a is a multiple of b. -/
def PD (D : FD) (b a : Nat → Nat) : Prop := ∃ n Q, El D Q ∧ Bd n Q ∧ a = pmul D n Q b
theorem PD.refl {D : FD} (F : Fld D) {a : Nat → Nat} (ha : El D a) : PD D a a := by
  refine ⟨1, pone, el_one F, fun k hk => by unfold pone; rw [if_neg (by omega)], ?_⟩
  rw [pmul, pmul, show pone 0 = 1 from rfl, pscale_one F ha, psh_zero, nil_padd F ha]
theorem PD.trans {D : FD} (F : Fld D) {a b c : Nat → Nat} (h1 : PD D b a) (h2 : PD D c b) : PD D c a := by
  obtain ⟨n, Q, eQ, hQ, rfl⟩ := h1
  obtain ⟨m, R, eR, hR, rfl⟩ := h2
  refine ⟨n + m, pmul D n Q R, el_mul F _ _ n, (pmul_bd F hR n).mono (by omega), ?_⟩
  exact (pmul_assoc F hR n (n + m) (Nat.le_refl _)).symm
/-- Nothing is left just where b divides. -/
theorem rest_nil {D : FD} (F : Fld D) {a b : Nat → Nat} {l inv n : Nat} (hbe : El D b) (hb : Bd (l + 1) b) (hi : D.mul (b l) inv = 1) (ha : El D a) (h : Bd (n + l) a) : divR D b l inv n a = pnil ↔ PD D b a := by
  have hl : b l ≠ 0 := by intro e; rw [e, zmul F] at hi; cases hi
  constructor
  · intro e
    have i := div_is F (b := b) (l := l) (inv := inv) n ha
    rw [e, padd_nil F (el_mul F _ _ n)] at i
    exact ⟨n, _, el_divQ F n a, divQ_bd n a, i.symm⟩
  · rintro ⟨m, Q, eQ, hQ, e⟩
    have i := div_is F (b := b) (l := l) (inv := inv) (n + m) ha
    have h1 : Bd l (divR D b l inv (n + m) a) := divR_bd F hbe hb hi (n + m) ha (h.mono (by omega))
    have e2 : padd D (pmul D (n + m) (divQ D b l inv (n + m) a) b) (divR D b l inv (n + m) a) = padd D (pmul D (n + m) Q b) pnil := by
      rw [i, padd_nil F (el_mul F _ _ _), pmul_to F b hQ (by omega)]; exact e
    have u := div_uniq F hb hl (el_divQ F _ _) eQ (el_divR F _ ha) (el_nil F) (divQ_bd _ _) (hQ.mono (by omega)) h1 (fun _ _ => rfl) e2
    rw [← (div_from F (b := b) (inv := inv) ha h (show n ≤ n + m from by omega)).1]
    exact u.2
end Go.Proofs.Ytjkncdmbcckcdaa

/- Plain mathematics of polynomials, gone on: with 1 at the end; common divisors, as they are looked for. No Go text here. -/
namespace Go.Proofs.Ytjkncdmbcckcdaa

/-- What undoes an element. -/
def FD.iv (D : FD) (x : Nat) : Nat := D.pw x (D.q - 2)
theorem iv_lt {D : FD} (hD : D ∈ fieldsL) (x : Nat) : D.iv x < D.q := pw_lt hD x _
theorem iv_is {D : FD} (hD : D ∈ fieldsL) {x : Nat} (hx : x < D.q) (h0 : x ≠ 0) : D.mul x (D.iv x) = 1 := inv_is hD hx h0
end Go.Proofs.Ytjkncdmbcckcdaa

/- Plain mathematics of polynomials, gone on: values of sums and products. No Go text here. -/
namespace Go.Proofs.Ytjkncdmbcckcdaa

end Go.Proofs.Ytjkncdmbcckcdaa

/- The program's polynomials: lists of numbers, and what trim leaves. -/
namespace Go.Proofs.Ytjkncdmbcckcdaa
open Go.RowKit

/-- The first n numbers of the slice that begins at ao are the coefficients c. -/
def Sl (ao : Option Addr) (n : Nat) (c : Nat → Nat) (w : World) : Prop := ∀ j, j < n → ∃ b off, ao = some ⟨b, off, none⟩ ∧ w.cell? ⟨b, off + j, none⟩ = some (.int .i64 (c j : Nat))
/-- A slice's memory lies below a block number. -/
def LtB (ao : Option Addr) (B : Nat) : Prop := ∀ x, ao = some x → x.block < B
/-- A slice's memory lies behind a block number. -/
def GeB (ao : Option Addr) (B : Nat) : Prop := ∀ x, ao = some x → B ≤ x.block

theorem Sl.drewN {ao : Option Addr} {n : Nat} {c : Nat → Nat} {w : World} (h : Sl ao n c w) (k : Nat) : Sl ao n c (w.drewN k) := h
theorem Sl.less {ao : Option Addr} {n m : Nat} {c : Nat → Nat} {w : World} (h : Sl ao n c w) (hm : m ≤ n) : Sl ao m c w := fun j hj => h j (by omega)
theorem Sl.congr {ao : Option Addr} {n : Nat} {c d : Nat → Nat} {w : World} (h : Sl ao n c w) (e : ∀ j, j < n → c j = d j) : Sl ao n d w := fun j hj => by rw [← e j hj]; exact h j hj
theorem Sl.below {ao : Option Addr} {n B : Nat} {c : Nat → Nat} {w w' : World} (h : Sl ao n c w) (hb : Below B w w') (hB : LtB ao B) : Sl ao n c w' := fun j hj => by
  obtain ⟨b, off, rfl, hc⟩ := h j hj
  exact ⟨b, off, rfl, ((bcell hb).1 b (off + j) (hB _ rfl)).trans hc⟩
theorem LtB.mono {ao : Option Addr} {B C : Nat} (h : LtB ao B) (hBC : B ≤ C) : LtB ao C := fun x hx => Nat.lt_of_lt_of_le (h x hx) hBC
theorem GeB.mono {ao : Option Addr} {B C : Nat} (h : GeB ao C) (hBC : B ≤ C) : GeB ao B := fun x hx => Nat.le_trans hBC (h x hx)

set_option maxHeartbeats 1000000 in
theorem trim_any {ao : Option Addr} {n cap : Nat} {c : Nat → Nat} {w : World} (h : Sl ao n c w) (hn : n ≤ cap) (hcap : cap ≤ 9223372036854775807) :
    Calls Try.prog 104 #[.slice ao n cap] w fun e w' => e = .returned (.slice ao (dgn c n) cap) ∧ ∃ k, w' = w.drewN k := by
  have HS : Hid (Sl ao n c w) := h
  clear h
  go_enter Try.func104, Try.ntmps104
  go_wp2
  go_loopw [3] (fun i wr => ∃ m : Nat, m ≤ n ∧ i = .int .i64 m ∧ Hid (dgn c n = dgn c m) ∧ ∃ d, wr = w.drewN d) (fun i _ => (intOf i).toNat)
  case atStart => exact ⟨n, Nat.le_refl _, rfl, rfl, 0, rfl⟩
  case round =>
    obtain ⟨m, hm, rfl, HD, d, rfl⟩ := hrel
    cases m with
    | zero =>
      have HE : Hid (dgn c n = 0) := HD.out
      cases ao with
      | none =>
        go_wp2
        go_ret
        exact ⟨by rw [HE.out]; rfl, _, rfl⟩
      | some x =>
        go_wp2
        go_ret
        exact ⟨by rw [HE.out]; rfl, _, rfl⟩
    | succ m =>
      obtain ⟨b, off, rfl, hc⟩ := HS.out m (by omega)
      by_cases h0 : c m = 0
      · have HE : Hid (dgn c n = dgn c m) := by show _ = _; rw [HD.out, dgn, if_pos h0]
        have hz : (((c m : Nat) : Int) == 0) = true := by rw [h0]; rfl
        clear h0
        go_wp2
        go_roundw
        case rel => exact ⟨m, by omega, by go_num, HE.out, _, rfl⟩
        case measure => simp [intOf]
      · have HE : Hid (dgn c n = m + 1) := by show _ = _; rw [HD.out, dgn, if_neg h0]
        have hz : (((c m : Nat) : Int) == 0) = false := by rw [beq_eq_false_iff_ne]; omega
        clear h0
        go_wp2
        go_ret
        exact ⟨by rw [HE.out]; rfl, _, rfl⟩
end Go.Proofs.Ytjkncdmbcckcdaa
