/- Texts of ours, one behind the other: S47 S49 S50 S52 S53 KN1 S54 S55 S56 KR5. -/
import Derived.Test.YtafebmhbfmdjlabZY4
import Derived.Test.YtafebmhbfmdjlabZS27
import Derived.Test.YtafebmhbfmdjlabZI20
import Derived.Test.YtafebmhbfmdjlabZG3
import Derived.Test.YtafebmhbfmdjlabZKL4
import Derived.Test.YtafebmhbfmdjlabZKA1
import Derived.Test.YtafebmhbfmdjlabZI31
import Derived.Test.YtafebmhbfmdjlabZX18
import Derived.Test.YtafebmhbfmdjlabZI8
import Derived.Test.YtafebmhbfmdjlabZKL3
import Derived.Test.YtafebmhbfmdjlabZI35
import Derived.Test.YtafebmhbfmdjlabZKL7
import Derived.Test.YtafebmhbfmdjlabZR5
import Derived.Test.YtafebmhbfmdjlabZV7
/- Plain mathematics: through values at different places goes just one short polynomial, and equations of powers are met by it alone. No Go text here. -/
namespace Go.Proofs.Ytafebmhbfmdjlab
open Go.RowKit Go.Sort

end Go.Proofs.Ytafebmhbfmdjlab

/- Plain mathematics: sums over a field's elements, and over all words. No Go text here. -/
namespace Go.Proofs.Ytafebmhbfmdjlab
open Go.RowKit Go.Sort

/-- The sum of the first n numbers. -/
def zsum (f : Nat → Int) : Nat → Int
  | 0 => 0
  | n + 1 => zsum f n + f n
theorem zsum_congr {f g : Nat → Int} : ∀ n, (∀ a, a < n → f a = g a) → zsum f n = zsum g n
  | 0, _ => rfl
  | n + 1, h => by
    show zsum f n + f n = zsum g n + g n
    rw [zsum_congr n (fun a ha => h a (by omega)), h n (by omega)]
theorem zsum_nil : ∀ n, zsum (fun _ => 0) n = 0
  | 0 => rfl
  | n + 1 => by show zsum (fun _ => 0) n + 0 = 0; rw [zsum_nil n]; rfl
theorem zsum_zero {f : Nat → Int} (n : Nat) (h : ∀ a, a < n → f a = 0) : zsum f n = 0 := (zsum_congr n h).trans (zsum_nil n)
theorem zsum_add (f g : Nat → Int) : ∀ n, zsum (fun a => f a + g a) n = zsum f n + zsum g n
  | 0 => rfl
  | n + 1 => by
    show zsum (fun a => f a + g a) n + (f n + g n) = zsum f n + f n + (zsum g n + g n)
    rw [zsum_add f g n]; omega
theorem zsum_mul (s : Int) (f : Nat → Int) : ∀ n, zsum (fun a => s * f a) n = s * zsum f n
  | 0 => (Int.mul_zero s).symm
  | n + 1 => by
    show zsum (fun a => s * f a) n + s * f n = s * (zsum f n + f n)
    rw [zsum_mul s f n, Int.mul_add]
theorem zsum_const (c : Int) : ∀ n : Nat, zsum (fun _ => c) n = (n : Int) * c
  | 0 => (Int.zero_mul c).symm
  | n + 1 => by
    show zsum (fun _ => c) n + c = ((n + 1 : Nat) : Int) * c
    rw [zsum_const c n, Int.natCast_add, Int.add_mul]
    show _ = (n : Int) * c + 1 * c
    rw [Int.one_mul]
theorem zsum_swap (f : Nat → Nat → Int) (m : Nat) : ∀ n, zsum (fun a => zsum (fun b => f a b) m) n = zsum (fun b => zsum (fun a => f a b) n) m
  | 0 => (zsum_nil m).symm
  | n + 1 => by
    show zsum (fun a => zsum (fun b => f a b) m) n + zsum (fun b => f n b) m = zsum (fun b => zsum (fun a => f a b) n + f n b) m
    rw [zsum_swap f m n, zsum_add]
theorem zsum_one (f : Nat → Int) {b : Nat} : ∀ n, b < n → zsum (fun a => if a = b then f a else 0) n = f b
  | 0, h => absurd h (by omega)
  | n + 1, h => by
    show zsum (fun a => if a = b then f a else 0) n + (if n = b then f n else 0) = f b
    by_cases e : n = b
    · rw [zsum_zero n (fun a ha => if_neg (by omega)), if_pos e, e]; omega
    · rw [zsum_one f n (by omega), if_neg e]; omega
/-- One sign of a word told otherwise. -/
def pt (v : Nat → Nat) (n a : Nat) : Nat → Nat := fun j => if j = n then a else v j
theorem pt_el {D : FD} {v : Nat → Nat} {n a : Nat} (hv : El D v) (ha : a < D.q) : El D (pt v n a) := fun j => by unfold pt; split; exact ha; exact hv j
theorem pt_bd {v : Nat → Nat} {n a : Nat} (hv : Bd n v) : Bd (n + 1) (pt v n a) := fun j hj => by unfold pt; rw [if_neg (by omega)]; exact hv j (by omega)
/-- The sum over all words of n signs. -/
def wsum (q : Nat) : Nat → ((Nat → Nat) → Int) → Int
  | 0, f => f pnil
  | n + 1, f => zsum (fun a => wsum q n (fun v => f (pt v n a))) q
theorem wsum_congr {D : FD} (F : Fld D) : ∀ n {f g : (Nat → Nat) → Int}, (∀ v, El D v → Bd n v → f v = g v) → wsum D.q n f = wsum D.q n g
  | 0, _, _, h => h pnil (el_nil F) (fun _ _ => rfl)
  | n + 1, _, _, h => zsum_congr D.q (fun _ ha => wsum_congr F n (fun _ hv hb => h _ (pt_el hv ha) (pt_bd hb)))
theorem wsum_add (q : Nat) : ∀ n (f g : (Nat → Nat) → Int), wsum q n (fun v => f v + g v) = wsum q n f + wsum q n g
  | 0, _, _ => rfl
  | n + 1, f, g => by
    show zsum (fun a => wsum q n (fun v => f (pt v n a) + g (pt v n a))) q = _
    rw [zsum_congr q (fun a _ => wsum_add q n (fun v => f (pt v n a)) (fun v => g (pt v n a))), zsum_add]; rfl
theorem wsum_mul (q : Nat) (s : Int) : ∀ n (f : (Nat → Nat) → Int), wsum q n (fun v => s * f v) = s * wsum q n f
  | 0, _ => rfl
  | n + 1, f => by
    show zsum (fun a => wsum q n (fun v => s * f (pt v n a))) q = _
    rw [zsum_congr q (fun a _ => wsum_mul q s n (fun v => f (pt v n a))), zsum_mul]; rfl
theorem wsum_nil (q : Nat) : ∀ n, wsum q n (fun _ => 0) = 0
  | 0 => rfl
  | n + 1 => by
    show zsum (fun _ => wsum q n (fun _ => 0)) q = 0
    rw [zsum_congr q (fun _ _ => wsum_nil q n), zsum_nil]
theorem wsum_zsum (q : Nat) (f : Nat → (Nat → Nat) → Int) (n : Nat) : ∀ m, wsum q n (fun v => zsum (fun a => f a v) m) = zsum (fun a => wsum q n (f a)) m
  | 0 => wsum_nil q n
  | m + 1 => by
    show wsum q n (fun v => zsum (fun a => f a v) m + f m v) = zsum (fun a => wsum q n (f a)) m + wsum q n (f m)
    rw [wsum_add, wsum_zsum q f n m]
def bi (b : Bool) : Int := if b = true then 1 else 0
theorem bi_t : bi true = 1 := rfl
theorem bi_f : bi false = 0 := rfl
end Go.Proofs.Ytafebmhbfmdjlab

/- Plain mathematics: MacWilliams' identity, by sums over all words. No Go text here. -/
namespace Go.Proofs.Ytafebmhbfmdjlab
open Go.RowKit Go.Sort

/-- A word's weight. -/
def wtn (u : Nat → Nat) (n : Nat) : Nat := ct (fun i => !decide (((u i : Nat) : Int) = 0)) n
theorem wtn_le (u : Nat → Nat) : ∀ n, wtn u n ≤ n
  | 0 => Nat.le_refl _
  | n + 1 => by
    have := wtn_le u n
    show wtn u n + (if (!decide (((u n : Nat) : Int) = 0)) = true then 1 else 0) ≤ n + 1
    split <;> omega
theorem enw_piv {D : FD} (F : Fld D) {n k : Nat} {R : Nat → Nat → Nat} {p m : Nat → Nat} (h : RRE D n k R p) (hm : El D m) {i : Nat} (hi : i < k) : ∀ t, t ≤ k → enw D R m t (p i) = if i < t then m i else 0
  | 0, _ => rfl
  | t + 1, ht => by
    show D.ad (enw D R m t (p i)) (D.mul (m t) (R t (p i))) = _
    rw [enw_piv F h hm hi t (by omega)]
    by_cases e : t = i
    · rw [e, if_neg (by omega), if_pos (by omega), h.one i hi, mul1 F (hm i), zero_ad F (hm i)]
    · rw [h.zero t i (by omega) hi e, mul0 F]
      by_cases c : i < t
      · rw [if_pos c, if_pos (by omega), ad_zero F (hm i)]
      · rw [if_neg c, if_neg (by omega), ad_zero F (zero_lt' F)]
theorem enw_lc {D : FD} (R : Nat → Nat → Nat) (p v : Nat → Nat) : ∀ k, enw D R (fun i => if i < k then v (p i) else 0) k = lcR D R p v k := fun k => by
  have h : ∀ t, t ≤ k → enw D R (fun i => if i < k then v (p i) else 0) t = lcR D R p v t := fun t => by
    induction t with
    | zero => intro _; rfl
    | succ t ih =>
      intro ht
      show padd D (enw D R (fun i => if i < k then v (p i) else 0) t) (pscale D (if t < k then v (p t) else 0) (R t)) = padd D (lcR D R p v t) (pscale D (v (p t)) (R t))
      rw [ih (by omega), if_pos (show t < k by omega)]
  exact h k (Nat.le_refl _)
theorem enw_in {D : FD} (F : Fld D) {n k : Nat} {R : Nat → Nat → Nat} {p : Nat → Nat} (h : RRE D n k R p) (m : Nat → Nat) : Spn D (RowsOf k R) (enw D R m k) ∧ Bd n (enw D R m k) := by
  have hh : ∀ t, t ≤ k → Spn D (RowsOf k R) (enw D R m t) ∧ Bd n (enw D R m t) := fun t => by
    induction t with
    | zero => intro _; exact ⟨spn_nil D _, fun _ _ => rfl⟩
    | succ t ih =>
      intro ht
      obtain ⟨h1, h2⟩ := ih (by omega)
      refine ⟨spn_add F h1 (spn_scale F _ ⟨[(1, R t)], fun x hx => by simp at hx; rw [hx]; exact ⟨t, by omega, rfl⟩, by
        show R t = padd D (pscale D 1 (R t)) pnil
        rw [pscale_one F (h.el t (by omega)), padd_nil F (h.el t (by omega))]⟩), fun j hj => ?_⟩
      show D.ad (enw D R m t j) (D.mul (m t) (R t j)) = 0
      rw [h2 j hj, h.bd t (by omega) j hj, mul0 F, ad_zero F (zero_lt' F)]
  exact hh k (Nat.le_refl _)
end Go.Proofs.Ytafebmhbfmdjlab

/- Plain mathematics: the weights of a code, gone through by its messages, and MacWilliams' identity for them. No Go text here. -/
namespace Go.Proofs.Ytafebmhbfmdjlab
open Go.RowKit Go.Sort

theorem zsum_addn (g : Nat → Int) (n : Nat) : ∀ m, zsum g (n + m) = zsum g n + zsum (fun b => g (n + b)) m
  | 0 => by show zsum g n = zsum g n + 0; omega
  | m + 1 => by
    show zsum g (n + m) + g (n + m) = zsum g n + (zsum (fun b => g (n + b)) m + g (n + m))
    rw [zsum_addn g n m]; omega
theorem zsum_prod (g : Nat → Int) (q : Nat) : ∀ m, zsum g (m * q) = zsum (fun a => zsum (fun b => g (a * q + b)) q) m
  | 0 => by rw [Nat.zero_mul]; rfl
  | m + 1 => by
    rw [Nat.succ_mul, zsum_addn, zsum_prod g q m]; rfl
theorem dgs_pt {q k a b : Nat} (hq : 2 ≤ q) (hb : b < q) : dgs q (k + 1) (a * q + b) = pt (dgs q k a) k b := by
  funext j
  unfold pt dgs
  by_cases e : j = k
  · rw [if_pos e, if_pos (by omega), e, show k + 1 - 1 - k = 0 by omega, Nat.pow_zero, Nat.div_one, Nat.mul_comm, Nat.mul_add_mod, Nat.mod_eq_of_lt hb]
  · rw [if_neg e]
    by_cases c : j < k
    · rw [if_pos c, if_pos (by omega), show k + 1 - 1 - j = (k - 1 - j) + 1 by omega, Nat.pow_succ', ← Nat.div_div_eq_div_mul, Nat.mul_comm a q, Nat.mul_add_div (by omega), Nat.div_eq_of_lt hb, Nat.add_zero]
    · rw [if_neg c, if_neg (by omega)]
/-- A sum over all messages by their numbers. -/
theorem wsum_dgs {q : Nat} (hq : 2 ≤ q) : ∀ k (f : (Nat → Nat) → Int), zsum (fun r => f (dgs q k r)) (q ^ k) = wsum q k f
  | 0, f => by
    rw [Nat.pow_zero]
    show 0 + f (dgs q 0 0) = f pnil
    have e : dgs q 0 0 = pnil := by funext j; unfold dgs; rw [if_neg (by omega)]; rfl
    rw [e]; omega
  | k + 1, f => by
    rw [Nat.pow_succ, zsum_prod]
    have h1 : zsum (fun a => zsum (fun b => f (dgs q (k + 1) (a * q + b))) q) (q ^ k) = zsum (fun a => zsum (fun b => f (pt (dgs q k a) k b)) q) (q ^ k) := zsum_congr _ (fun a _ => zsum_congr _ (fun b hb => by rw [dgs_pt hq hb]))
    rw [h1, zsum_swap (fun a b => f (pt (dgs q k a) k b))]
    show _ = zsum (fun b => wsum q k (fun v => f (pt v k b))) q
    exact zsum_congr _ (fun b _ => wsum_dgs hq k (fun v => f (pt v k b)))
theorem wcn_zsum (D : FD) (R : Nat → Nat → Nat) (n K x : Nat) : ∀ N, ((wcn D R n K N x : Nat) : Int) = zsum (fun r => bi (decide (wtn (enw D R (dgs D.q K r) K) n = x))) N
  | 0 => rfl
  | N + 1 => by
    show ((wcn D R n K N x + if x = wgr D R n K N then 1 else 0 : Nat) : Int) = zsum _ N + bi (decide (wtn (enw D R (dgs D.q K N) K) n = x))
    rw [← wcn_zsum D R n K x N]
    have e : wgr D R n K N = wtn (enw D R (dgs D.q K N) K) n := rfl
    by_cases c : x = wgr D R n K N
    · rw [if_pos c, decide_eq_true (by rw [← e]; exact c.symm), bi_t]; omega
    · rw [if_neg c, decide_eq_false (by rw [← e]; exact fun h => c h.symm), bi_f]; omega
/-- How many words have a weight: a sum over all messages. -/
theorem wcn_wsum {D : FD} (F : Fld D) (R : Nat → Nat → Nat) (n K x : Nat) : ((wcn D R n K (D.q ^ K) x : Nat) : Int) = wsum D.q K (fun m => bi (decide (wtn (enw D R m K) n = x))) := by
  rw [wcn_zsum, wsum_dgs F.q2 K (fun m => bi (decide (wtn (enw D R m K) n = x)))]
theorem vsm_zsum (f K : Nat → Int) : ∀ r, vsm f K r = zsum (fun x => f x * K x) r
  | 0 => rfl
  | r + 1 => by
    show vsm f K r + f r * K r = zsum (fun x => f x * K x) r + f r * K r
    rw [vsm_zsum f K r]
/-- What a function of the weight sums up to. -/
theorem wcn_sum {D : FD} (F : Fld D) (R : Nat → Nat → Nat) (n K : Nat) (g : Nat → Int) : vsm (fun x => ((wcn D R n K (D.q ^ K) x : Nat) : Int)) g (n + 1) = wsum D.q K (fun m => g (wtn (enw D R m K) n)) := by
  rw [vsm_zsum]
  have h1 : zsum (fun x => ((wcn D R n K (D.q ^ K) x : Nat) : Int) * g x) (n + 1) = zsum (fun x => wsum D.q K (fun m => g x * bi (decide (wtn (enw D R m K) n = x)))) (n + 1) := zsum_congr _ (fun x _ => by rw [wcn_wsum F, wsum_mul, Int.mul_comm])
  rw [h1, ← wsum_zsum D.q (fun x m => g x * bi (decide (wtn (enw D R m K) n = x)))]
  refine wsum_congr F K (fun m _ _ => ?_)
  have hle := wtn_le (enw D R m K) n
  rw [← zsum_one g (n + 1) (show wtn (enw D R m K) n < n + 1 by omega)]
  refine zsum_congr _ (fun x _ => ?_)
  by_cases c : x = wtn (enw D R m K) n
  · rw [if_pos c, decide_eq_true c.symm, bi_t, Int.mul_one]
  · rw [if_neg c, decide_eq_false (fun h => c h.symm), bi_f, Int.mul_zero]
theorem wsum_one (q : Nat) : ∀ k, wsum q k (fun _ => 1) = ((q ^ k : Nat) : Int)
  | 0 => rfl
  | k + 1 => by
    show zsum (fun _ => wsum q k (fun _ => 1)) q = _
    rw [wsum_one q k, zsum_const, Nat.pow_succ, Nat.mul_comm]
    simp
/-- As many words as there are. -/
theorem wcn_all {D : FD} (F : Fld D) (R : Nat → Nat → Nat) (n k : Nat) : tsm (fun x => ((wcn D R n k (D.q ^ k) x : Nat) : Int)) (n + 1) = ((D.q ^ k : Nat) : Int) := by
  unfold tsm
  rw [wcn_sum F R n k (fun _ => 1), wsum_one]
end Go.Proofs.Ytafebmhbfmdjlab

/- A code's weights and those of its dual: what weights.Dual makes of them. -/
namespace Go.Proofs.Ytafebmhbfmdjlab
open Go.RowKit Go.Sort

theorem wtn_zero {u : Nat → Nat} : ∀ n, wtn u n = 0 → ∀ j, j < n → u j = 0
  | 0, _, j, hj => absurd hj (by omega)
  | n + 1, h, j, hj => by
    have h' : wtn u n + (if (!decide (((u n : Nat) : Int) = 0)) = true then 1 else 0) = 0 := h
    by_cases e : u n = 0
    · rcases Nat.lt_or_ge j n with c | c
      · exact wtn_zero n (by omega) j c
      · rw [show j = n by omega, e]
    · rw [if_pos (by simp; omega)] at h'
      omega
theorem wtn_pnil : ∀ n, wtn pnil n = 0
  | 0 => rfl
  | n + 1 => by
    show wtn pnil n + (if (!decide (((pnil n : Nat) : Int) = 0)) = true then 1 else 0) = 0
    rw [wtn_pnil n, if_neg (by simp [pnil])]
theorem enw_pnil {D : FD} (F : Fld D) (R : Nat → Nat → Nat) : ∀ k, enw D R pnil k = pnil
  | 0 => rfl
  | k + 1 => by rw [enw_zero F (show pnil k = 0 from rfl), enw_pnil F R k]
/-- No more rows than there were. -/
theorem Red.few {D : FD} (hD : D ∈ fieldsL) {n m k : Nat} {M R : Nat → Nat → Nat} (h : Red D n m M k R) (he : ∀ i, i < m → El D (M i) ∧ Bd n (M i)) : k ≤ m := by
  obtain ⟨k', R', p', hk, hr, hs⟩ := rre_ex hD (fun i hi => (he i hi).1) (fun i hi => (he i hi).2)
  have := (Red.uniq (fld hD) h ⟨p', hr, hs⟩ (fun _ => Iff.rfl)).1
  omega
end Go.Proofs.Ytafebmhbfmdjlab

/- TopMacWilliams: the walk of the statement, whatever raw numbers it is given. -/
namespace Go.Proofs.Ytafebmhbfmdjlab
open Go.RowKit Go.Sort

theorem Cod.wts {D : FD} (hD : D ∈ fieldsL) {n m : Nat} (ca : Nat) {ao : Option Addr} {M : Nat → Nat → Nat} {w : World} (h : Cod D n ao m M w) :
    Calls Try.prog 24 #[.agg #[.int .i64 D.q, .int .i64 (n : Nat), .slice ao m ca]] w (WsP D n m M w) := by
  have hr := h.rows (fld hD)
  have hc := h.chk hD ca
  obtain ⟨A, N, C, Z, h1, h2⟩ := h
  refine (weights_ok hD hr.2.1.1 hr.2.1.2 (M := mzc N Z) (fun wx hx => small_ok hD (h1.below hx) (fun wy hy => hc wy (bel_up' hx hy)))).mono ?_
  rintro x w' ⟨k, R, hred, hrest⟩
  exact ⟨k, R, hred.of_eq h2, hrest⟩
end Go.Proofs.Ytafebmhbfmdjlab

/- Plain mathematics: the bounds of Singleton, Delsarte and Plotkin for a code whose words lie apart. No Go text here. -/
namespace Go.Proofs.Ytafebmhbfmdjlab
open Go.RowKit Go.Sort

/-- All words of a code but nought weigh d at least. -/
def Far (D : FD) (n k : Nat) (R : Nat → Nat → Nat) (d : Nat) : Prop := ∀ m, El D m → Bd k m → m ≠ pnil → d ≤ wtn (enw D R m k) n
theorem enw_wt0 {D : FD} (F : Fld D) {n k : Nat} {R : Nat → Nat → Nat} {p m : Nat → Nat} (h : RRE D n k R p) (hm : El D m) (hb : Bd k m) (h0 : wtn (enw D R m k) n = 0) : m = pnil := by
  funext i
  by_cases hi : i < k
  · have := wtn_zero n h0 (p i) (h.lt i hi)
    rw [enw_piv F h hm hi k (Nat.le_refl _), if_pos hi] at this
    exact this
  · exact hb i (by omega)
end Go.Proofs.Ytafebmhbfmdjlab

/- Plain mathematics: Griesmer's bound (words of a code where others are nought). No Go text here. -/
namespace Go.Proofs.Ytafebmhbfmdjlab
open Go.RowKit Go.Sort

end Go.Proofs.Ytafebmhbfmdjlab

/- Plain mathematics: Hamming's bound (balls around a code's words), and Varshamov's number against it. No Go text here. -/
namespace Go.Proofs.Ytafebmhbfmdjlab
open Go.RowKit Go.Sort

/-- At how many places two words differ. -/
def dsg (u c : Nat → Nat) (n : Nat) : Nat := ct (fun j => !decide (u j = c j)) n
theorem dsg_tri (a u b : Nat → Nat) (n : Nat) : dsg a b n ≤ dsg u a n + dsg u b n := by
  refine Nat.le_trans (ct_mono n (p' := fun i => (!decide (u i = a i)) || (!decide (u i = b i))) (fun i _ h => ?_)) (ct_or _ _ n)
  by_cases e1 : u i = a i
  · by_cases e2 : u i = b i
    · rw [decide_eq_true (e1.symm.trans e2)] at h; cases h
    · rw [decide_eq_false e2]; simp
  · rw [decide_eq_false e1]; simp
theorem far_spn {D : FD} (F : Fld D) {n k d : Nat} {R : Nat → Nat → Nat} {p : Nat → Nat} (h : RRE D n k R p) (hf : Far D n k R d) {v : Nat → Nat} (hv1 : El D v) (hv2 : Spn D (RowsOf k R) v) (hv4 : v ≠ pnil) : d ≤ wtn v n := by
  have e := rre_coord F h hv2
  have e2 := hf (fun i => if i < k then v (p i) else 0) (fun i => by show (if i < k then v (p i) else 0) < D.q; split; exact hv1 _; exact zero_lt' F) (fun i hi => if_neg (by omega)) (fun e0 => hv4 (rre_nil F h hv2 (fun i hi => by
    have := congrFun e0 i
    rw [if_pos hi] at this
    exact this)))
  rw [enw_lc, ← e] at e2
  exact e2
theorem far_msg {D : FD} (F : Fld D) {n k d : Nat} {R : Nat → Nat → Nat} {p : Nat → Nat} (h : RRE D n k R p) (hf : Far D n k R d) {m m' : Nat → Nat} (hm : El D m) (hb : Bd k m) (hm' : El D m') (hb' : Bd k m') (hd : dsg (enw D R m k) (enw D R m' k) n < d) : m = m' := by
  have e1 : psub D (enw D R m k) (enw D R m' k) = pnil := by
    refine Classical.byContradiction fun hne => ?_
    have h1 := far_spn F h hf (v := psub D (enw D R m k) (enw D R m' k)) (fun j => sb_lt F (enw_el F k j) (enw_el F k j)) (spn_sub F (enw_in F h m).1 (enw_in F h m').1) hne
    have h2 : wtn (psub D (enw D R m k) (enw D R m' k)) n = dsg (enw D R m k) (enw D R m' k) n := ct_same n (fun j _ => by
      show (!decide (((D.sb (enw D R m k j) (enw D R m' k j) : Nat) : Int) = 0)) = (!decide (enw D R m k j = enw D R m' k j))
      by_cases c : enw D R m k j = enw D R m' k j
      · rw [decide_eq_true c, c, sb_self F (enw_el F k j)]; rfl
      · have : D.sb (enw D R m k j) (enw D R m' k j) ≠ 0 := fun e => c (sb_eq_zero F (enw_el F k j) (enw_el F k j) e)
        rw [decide_eq_false c, decide_eq_false (by omega)])
    omega
  funext i
  by_cases hi : i < k
  · have h3 := sb_eq_zero F (enw_el F k (p i)) (enw_el F k (p i)) (congrFun e1 (p i))
    rw [enw_piv F h hm hi k (Nat.le_refl _), enw_piv F h hm' hi k (Nat.le_refl _), if_pos hi, if_pos hi] at h3
    exact h3
  · rw [hb i (by omega), hb' i (by omega)]
end Go.Proofs.Ytafebmhbfmdjlab

/- Golay: numbers of sets of up to 64 places, of the reference (after KB2); how many may be gone through. -/
namespace Go.Proofs.Ytafebmhbfmdjlab
open Go.RowKit

/-- A row of Pascal's. -/
def pnx : Nat → List Nat → List Nat
  | a, [] => [a]
  | a, b :: l => (a + b) :: pnx b l
def prw : Nat → List Nat
  | 0 => [1]
  | n + 1 => pnx 0 (prw n)
theorem pnx_at : ∀ (l : List Nat) (a k : Nat), (pnx a l).getD k 0 = (if k = 0 then a else l.getD (k - 1) 0) + l.getD k 0
  | [], a, k => by
    cases k with
    | zero => rfl
    | succ k => cases k <;> rfl
  | b :: l, a, k => by
    cases k with
    | zero => rfl
    | succ k =>
      have := pnx_at l b k
      show (pnx b l).getD k 0 = (if k + 1 = 0 then a else (b :: l).getD k 0) + l.getD k 0
      rw [this, if_neg (show ¬ k + 1 = 0 by omega)]
      cases k with
      | zero => rfl
      | succ k => rw [if_neg (by omega)]; rfl
theorem chs_prw : ∀ n k, chs n k = (prw n).getD k 0
  | 0, k => by cases k <;> rfl
  | n + 1, k => by
    show _ = (pnx 0 (prw n)).getD k 0
    rw [pnx_at]
    cases k with
    | zero => rw [if_pos rfl, ← chs_prw n 0]; simp [chs]
    | succ k =>
      rw [if_neg (by omega), ← chs_prw n (k + 1), show k + 1 - 1 = k by omega, ← chs_prw n k]
      rfl
end Go.Proofs.Ytafebmhbfmdjlab
