/- Texts of ours, one behind the other: S49 S50 S52 S53 KN1 S54 S55 S56 KN2 KR1 S63 KS1 KS3 KS4. -/
import Derived.Test.YtppggchhkckobaaGreatZI18
import Derived.Test.YtppggchhkckobaaGreatZG2
import Derived.Test.YtppggchhkckobaaGreatZS11
import Derived.Test.YtppggchhkckobaaGreatZKL4
import Derived.Test.YtppggchhkckobaaGreatZI25
import Derived.Test.YtppggchhkckobaaGreatZX18
import Derived.Test.YtppggchhkckobaaGreatZI5
import Derived.Test.YtppggchhkckobaaGreatZKL3
import Derived.Test.YtppggchhkckobaaGreatZK6
import Derived.Test.YtppggchhkckobaaGreatZKL7
import Derived.Test.YtppggchhkckobaaGreatZR5
import Derived.Test.YtppggchhkckobaaGreatZS24
import Derived.Test.YtppggchhkckobaaGreatZV7
import Derived.Test.YtppggchhkckobaaGreatZL10
import Derived.Test.YtppggchhkckobaaGreatZU8
import Derived.Test.YtppggchhkckobaaGreatZA1
/- Plain mathematics: sums over a field's elements, and over all words. No Go text here. -/
namespace Go.Proofs.YtppggchhkckobaaGreat
open Go.RowKit Go.Sort

/-- The sum of the first n numbers. -/
def zsum (f : Nat → Int) : Nat → Int
  | 0 => 0
  | n + 1 => zsum f n + f n
theorem zsum_congr {f g : Nat → Int} : ∀ n, (∀ a, a < n → f a = g a) → zsum f n = zsum g n
  | 0, _ => rfl
  | n + 1, h => by
    show zsum f n + f n = zsum g n + g n
    rw [zsum_congr n (fun a ha => h a (by omega)), h n (by omega)]
theorem zsum_nil : ∀ n, zsum (fun _ => 0) n = 0
  | 0 => rfl
  | n + 1 => by show zsum (fun _ => 0) n + 0 = 0; rw [zsum_nil n]; rfl
theorem zsum_zero {f : Nat → Int} (n : Nat) (h : ∀ a, a < n → f a = 0) : zsum f n = 0 := (zsum_congr n h).trans (zsum_nil n)
theorem zsum_add (f g : Nat → Int) : ∀ n, zsum (fun a => f a + g a) n = zsum f n + zsum g n
  | 0 => rfl
  | n + 1 => by
    show zsum (fun a => f a + g a) n + (f n + g n) = zsum f n + f n + (zsum g n + g n)
    rw [zsum_add f g n]; omega
theorem zsum_swap (f : Nat → Nat → Int) (m : Nat) : ∀ n, zsum (fun a => zsum (fun b => f a b) m) n = zsum (fun b => zsum (fun a => f a b) n) m
  | 0 => (zsum_nil m).symm
  | n + 1 => by
    show zsum (fun a => zsum (fun b => f a b) m) n + zsum (fun b => f n b) m = zsum (fun b => zsum (fun a => f a b) n + f n b) m
    rw [zsum_swap f m n, zsum_add]
theorem zsum_one (f : Nat → Int) {b : Nat} : ∀ n, b < n → zsum (fun a => if a = b then f a else 0) n = f b
  | 0, h => absurd h (by omega)
  | n + 1, h => by
    show zsum (fun a => if a = b then f a else 0) n + (if n = b then f n else 0) = f b
    by_cases e : n = b
    · rw [zsum_zero n (fun a ha => if_neg (by omega)), if_pos e, e]; omega
    · rw [zsum_one f n (by omega), if_neg e]; omega
theorem zsum_le {f g : Nat → Int} : ∀ n, (∀ a, a < n → f a ≤ g a) → zsum f n ≤ zsum g n
  | 0, _ => Int.le_refl _
  | n + 1, h => by
    have h1 := zsum_le n (fun a ha => h a (by omega))
    have h2 := h n (by omega)
    show zsum f n + f n ≤ zsum g n + g n
    omega
/-- One sign of a word told otherwise. -/
def pt (v : Nat → Nat) (n a : Nat) : Nat → Nat := fun j => if j = n then a else v j
theorem pt_lo (v : Nat → Nat) {n a j : Nat} (h : j < n) : pt v n a j = v j := if_neg (by omega)
theorem pt_at (v : Nat → Nat) (n a : Nat) : pt v n a n = a := if_pos rfl
theorem pt_el {D : FD} {v : Nat → Nat} {n a : Nat} (hv : El D v) (ha : a < D.q) : El D (pt v n a) := fun j => by unfold pt; split; exact ha; exact hv j
theorem pt_bd {v : Nat → Nat} {n a : Nat} (hv : Bd n v) : Bd (n + 1) (pt v n a) := fun j hj => by unfold pt; rw [if_neg (by omega)]; exact hv j (by omega)
theorem pt_cut {v : Nat → Nat} {n : Nat} (hv : Bd (n + 1) v) : v = pt (fun j => if j < n then v j else 0) n (v n) := by
  funext j
  unfold pt
  by_cases e : j = n
  · rw [if_pos e, e]
  · rw [if_neg e]
    show v j = if j < n then v j else 0
    by_cases h : j < n
    · rw [if_pos h]
    · rw [if_neg h]; exact hv j (by omega)
/-- The sum over all words of n signs. -/
def wsum (q : Nat) : Nat → ((Nat → Nat) → Int) → Int
  | 0, f => f pnil
  | n + 1, f => zsum (fun a => wsum q n (fun v => f (pt v n a))) q
theorem wsum_congr {D : FD} (F : Fld D) : ∀ n {f g : (Nat → Nat) → Int}, (∀ v, El D v → Bd n v → f v = g v) → wsum D.q n f = wsum D.q n g
  | 0, _, _, h => h pnil (el_nil F) (fun _ _ => rfl)
  | n + 1, _, _, h => zsum_congr D.q (fun _ ha => wsum_congr F n (fun _ hv hb => h _ (pt_el hv ha) (pt_bd hb)))
theorem wsum_nil (q : Nat) : ∀ n, wsum q n (fun _ => 0) = 0
  | 0 => rfl
  | n + 1 => by
    show zsum (fun _ => wsum q n (fun _ => 0)) q = 0
    rw [zsum_congr q (fun _ _ => wsum_nil q n), zsum_nil]
/-- Do two words agree at the first signs? -/
def agB (n : Nat) (u v : Nat → Nat) : Bool := decide (∀ j, j < n → u j = v j)
theorem agB_iff {n : Nat} {u v : Nat → Nat} : agB n u v = true ↔ ∀ j, j < n → u j = v j := decide_eq_true_iff
def bi (b : Bool) : Int := if b = true then 1 else 0
theorem bi_t : bi true = 1 := rfl
theorem bi_f : bi false = 0 := rfl
theorem bi_nn (b : Bool) : 0 ≤ bi b := by cases b <;> decide
theorem wsum_at {D : FD} (F : Fld D) : ∀ n {v : Nat → Nat} (g : (Nat → Nat) → Int), El D v → Bd n v → wsum D.q n (fun u => bi (agB n u v) * g u) = g v
  | 0, v, g, _, hb => by
    have e : v = pnil := by funext j; exact hb j (by omega)
    show bi (agB 0 pnil v) * g pnil = g v
    rw [show agB 0 pnil v = true from agB_iff.2 (fun j hj => absurd hj (by omega)), e, bi_t, Int.one_mul]
  | n + 1, v, g, hv, hb => by
    obtain ⟨v', hv'⟩ : ∃ v' : Nat → Nat, v' = fun j => if j < n then v j else 0 := ⟨_, rfl⟩
    have hp : v = pt v' n (v n) := by rw [hv']; exact pt_cut hb
    have he : El D v' := fun j => by
      rw [hv']
      show (if j < n then v j else 0) < D.q
      split
      · exact hv j
      · exact zero_lt' F
    have hbd : Bd n v' := fun j hj => by rw [hv']; exact if_neg (by omega)
    show zsum (fun a => wsum D.q n (fun u => bi (agB (n + 1) (pt u n a) v) * g (pt u n a))) D.q = g v
    have h1 : ∀ a, a < D.q → wsum D.q n (fun u => bi (agB (n + 1) (pt u n a) v) * g (pt u n a)) = if a = v n then g (pt v' n a) else 0 := fun a _ => by
      by_cases e : a = v n
      · rw [if_pos e, ← wsum_at F n (fun u => g (pt u n a)) he hbd]
        refine wsum_congr F n (fun u _ _ => ?_)
        have e2 : agB (n + 1) (pt u n a) v = agB n u v' := by
          rw [Bool.eq_iff_iff, agB_iff, agB_iff]
          constructor
          · intro h j hj
            have := h j (by omega)
            rw [pt_lo u hj] at this
            rw [this, hv']
            exact (if_pos hj).symm
          · intro h j hj
            by_cases c : j = n
            · rw [c, pt_at, e]
            · rw [pt_lo u (by omega), h j (by omega), hv']
              exact if_pos (by omega)
        rw [e2]
      · rw [if_neg e, ← wsum_nil D.q n]
        refine wsum_congr F n (fun u _ _ => ?_)
        have e2 : agB (n + 1) (pt u n a) v = false := by
          rw [Bool.eq_false_iff]
          intro h
          have := agB_iff.1 h n (by omega)
          rw [pt_at] at this
          exact e this
        rw [e2, bi_f, Int.zero_mul]
    rw [zsum_congr D.q h1, zsum_one (fun a => g (pt v' n a)) D.q (hv n), ← hp]
end Go.Proofs.YtppggchhkckobaaGreat

/- Plain mathematics: MacWilliams' identity, by sums over all words. No Go text here. -/
namespace Go.Proofs.YtppggchhkckobaaGreat
open Go.RowKit Go.Sort

/-- A word's weight. -/
def wtn (u : Nat → Nat) (n : Nat) : Nat := ct (fun i => !decide (((u i : Nat) : Int) = 0)) n
theorem enw_piv {D : FD} (F : Fld D) {n k : Nat} {R : Nat → Nat → Nat} {p m : Nat → Nat} (h : RRE D n k R p) (hm : El D m) {i : Nat} (hi : i < k) : ∀ t, t ≤ k → enw D R m t (p i) = if i < t then m i else 0
  | 0, _ => rfl
  | t + 1, ht => by
    show D.ad (enw D R m t (p i)) (D.mul (m t) (R t (p i))) = _
    rw [enw_piv F h hm hi t (by omega)]
    by_cases e : t = i
    · rw [e, if_neg (by omega), if_pos (by omega), h.one i hi, mul1 F (hm i), zero_ad F (hm i)]
    · rw [h.zero t i (by omega) hi e, mul0 F]
      by_cases c : i < t
      · rw [if_pos c, if_pos (by omega), ad_zero F (hm i)]
      · rw [if_neg c, if_neg (by omega), ad_zero F (zero_lt' F)]
end Go.Proofs.YtppggchhkckobaaGreat

/- Plain mathematics: the weights of a code, gone through by its messages, and MacWilliams' identity for them. No Go text here. -/
namespace Go.Proofs.YtppggchhkckobaaGreat
open Go.RowKit Go.Sort

theorem zsum_addn (g : Nat → Int) (n : Nat) : ∀ m, zsum g (n + m) = zsum g n + zsum (fun b => g (n + b)) m
  | 0 => by show zsum g n = zsum g n + 0; omega
  | m + 1 => by
    show zsum g (n + m) + g (n + m) = zsum g n + (zsum (fun b => g (n + b)) m + g (n + m))
    rw [zsum_addn g n m]; omega
theorem zsum_prod (g : Nat → Int) (q : Nat) : ∀ m, zsum g (m * q) = zsum (fun a => zsum (fun b => g (a * q + b)) q) m
  | 0 => by rw [Nat.zero_mul]; rfl
  | m + 1 => by
    rw [Nat.succ_mul, zsum_addn, zsum_prod g q m]; rfl
theorem dgs_pt {q k a b : Nat} (hq : 2 ≤ q) (hb : b < q) : dgs q (k + 1) (a * q + b) = pt (dgs q k a) k b := by
  funext j
  unfold pt dgs
  by_cases e : j = k
  · rw [if_pos e, if_pos (by omega), e, show k + 1 - 1 - k = 0 by omega, Nat.pow_zero, Nat.div_one, Nat.mul_comm, Nat.mul_add_mod, Nat.mod_eq_of_lt hb]
  · rw [if_neg e]
    by_cases c : j < k
    · rw [if_pos c, if_pos (by omega), show k + 1 - 1 - j = (k - 1 - j) + 1 by omega, Nat.pow_succ', ← Nat.div_div_eq_div_mul, Nat.mul_comm a q, Nat.mul_add_div (by omega), Nat.div_eq_of_lt hb, Nat.add_zero]
    · rw [if_neg c, if_neg (by omega)]
/-- A sum over all messages by their numbers. -/
theorem wsum_dgs {q : Nat} (hq : 2 ≤ q) : ∀ k (f : (Nat → Nat) → Int), zsum (fun r => f (dgs q k r)) (q ^ k) = wsum q k f
  | 0, f => by
    rw [Nat.pow_zero]
    show 0 + f (dgs q 0 0) = f pnil
    have e : dgs q 0 0 = pnil := by funext j; unfold dgs; rw [if_neg (by omega)]; rfl
    rw [e]; omega
  | k + 1, f => by
    rw [Nat.pow_succ, zsum_prod]
    have h1 : zsum (fun a => zsum (fun b => f (dgs q (k + 1) (a * q + b))) q) (q ^ k) = zsum (fun a => zsum (fun b => f (pt (dgs q k a) k b)) q) (q ^ k) := zsum_congr _ (fun a _ => zsum_congr _ (fun b hb => by rw [dgs_pt hq hb]))
    rw [h1, zsum_swap (fun a b => f (pt (dgs q k a) k b))]
    show _ = zsum (fun b => wsum q k (fun v => f (pt v k b))) q
    exact zsum_congr _ (fun b _ => wsum_dgs hq k (fun v => f (pt v k b)))
theorem wcn_zsum (D : FD) (R : Nat → Nat → Nat) (n K x : Nat) : ∀ N, ((wcn D R n K N x : Nat) : Int) = zsum (fun r => bi (decide (wtn (enw D R (dgs D.q K r) K) n = x))) N
  | 0 => rfl
  | N + 1 => by
    show ((wcn D R n K N x + if x = wgr D R n K N then 1 else 0 : Nat) : Int) = zsum _ N + bi (decide (wtn (enw D R (dgs D.q K N) K) n = x))
    rw [← wcn_zsum D R n K x N]
    have e : wgr D R n K N = wtn (enw D R (dgs D.q K N) K) n := rfl
    by_cases c : x = wgr D R n K N
    · rw [if_pos c, decide_eq_true (by rw [← e]; exact c.symm), bi_t]; omega
    · rw [if_neg c, decide_eq_false (by rw [← e]; exact fun h => c h.symm), bi_f]; omega
/-- How many words have a weight: a sum over all messages. -/
theorem wcn_wsum {D : FD} (F : Fld D) (R : Nat → Nat → Nat) (n K x : Nat) : ((wcn D R n K (D.q ^ K) x : Nat) : Int) = wsum D.q K (fun m => bi (decide (wtn (enw D R m K) n = x))) := by
  rw [wcn_zsum, wsum_dgs F.q2 K (fun m => bi (decide (wtn (enw D R m K) n = x)))]
end Go.Proofs.YtppggchhkckobaaGreat

/- A code's weights and those of its dual: what weights.Dual makes of them. -/
namespace Go.Proofs.YtppggchhkckobaaGreat
open Go.RowKit Go.Sort

theorem wtn_zero {u : Nat → Nat} : ∀ n, wtn u n = 0 → ∀ j, j < n → u j = 0
  | 0, _, j, hj => absurd hj (by omega)
  | n + 1, h, j, hj => by
    have h' : wtn u n + (if (!decide (((u n : Nat) : Int) = 0)) = true then 1 else 0) = 0 := h
    by_cases e : u n = 0
    · rcases Nat.lt_or_ge j n with c | c
      · exact wtn_zero n (by omega) j c
      · rw [show j = n by omega, e]
    · rw [if_pos (by simp; omega)] at h'
      omega
theorem wtn_pnil : ∀ n, wtn pnil n = 0
  | 0 => rfl
  | n + 1 => by
    show wtn pnil n + (if (!decide (((pnil n : Nat) : Int) = 0)) = true then 1 else 0) = 0
    rw [wtn_pnil n, if_neg (by simp [pnil])]
theorem enw_pnil {D : FD} (F : Fld D) (R : Nat → Nat → Nat) : ∀ k, enw D R pnil k = pnil
  | 0 => rfl
  | k + 1 => by rw [enw_zero F (show pnil k = 0 from rfl), enw_pnil F R k]
/-- No more rows than there were. -/
theorem Red.few {D : FD} (hD : D ∈ fieldsL) {n m k : Nat} {M R : Nat → Nat → Nat} (h : Red D n m M k R) (he : ∀ i, i < m → El D (M i) ∧ Bd n (M i)) : k ≤ m := by
  obtain ⟨k', R', p', hk, hr, hs⟩ := rre_ex hD (fun i hi => (he i hi).1) (fun i hi => (he i hi).2)
  have := (Red.uniq (fld hD) h ⟨p', hr, hs⟩ (fun _ => Iff.rfl)).1
  omega
end Go.Proofs.YtppggchhkckobaaGreat

/- TopMacWilliams: the walk of the statement, whatever raw numbers it is given. -/
namespace Go.Proofs.YtppggchhkckobaaGreat
open Go.RowKit Go.Sort

theorem Cod.wts {D : FD} (hD : D ∈ fieldsL) {n m : Nat} (ca : Nat) {ao : Option Addr} {M : Nat → Nat → Nat} {w : World} (h : Cod D n ao m M w) :
    Calls Tryz.prog 71 #[.agg #[.int .i64 D.q, .int .i64 (n : Nat), .slice ao m ca]] w (WsP D n m M w) := by
  have hr := h.rows (fld hD)
  have hc := h.chk hD ca
  obtain ⟨A, N, C, Z, h1, h2⟩ := h
  refine (weights_ok hD hr.2.1.1 hr.2.1.2 (M := mzc N Z) (fun wx hx => small_ok hD (h1.below hx) (fun wy hy => hc wy (bel_up' hx hy)))).mono ?_
  rintro x w' ⟨k, R, hred, hrest⟩
  exact ⟨k, R, hred.of_eq h2, hrest⟩
end Go.Proofs.YtppggchhkckobaaGreat

/- Plain mathematics: the bounds of Singleton, Delsarte and Plotkin for a code whose words lie apart. No Go text here. -/
namespace Go.Proofs.YtppggchhkckobaaGreat
open Go.RowKit Go.Sort

theorem wsum_le {D : FD} (F : Fld D) : ∀ n {f g : (Nat → Nat) → Int}, (∀ v, El D v → Bd n v → f v ≤ g v) → wsum D.q n f ≤ wsum D.q n g
  | 0, _, _, h => h pnil (el_nil F) (fun _ _ => rfl)
  | n + 1, _, _, h => zsum_le D.q (fun _ ha => wsum_le F n (fun _ hv hb => h _ (pt_el hv ha) (pt_bd hb)))
theorem wsum_point {D : FD} (F : Fld D) (n : Nat) {g : (Nat → Nat) → Int} (h : ∀ v, El D v → Bd n v → 0 ≤ g v) {v : Nat → Nat} (hv : El D v) (hb : Bd n v) : g v ≤ wsum D.q n g := by
  have e := wsum_at F n g hv hb
  rw [← e]
  refine wsum_le F n (fun u hu hub => ?_)
  have := h u hu hub
  cases agB n u v
  · rw [bi_f]; omega
  · rw [bi_t]; omega
/-- All words of a code but nought weigh d at least. -/
def Far (D : FD) (n k : Nat) (R : Nat → Nat → Nat) (d : Nat) : Prop := ∀ m, El D m → Bd k m → m ≠ pnil → d ≤ wtn (enw D R m k) n
theorem enw_wt0 {D : FD} (F : Fld D) {n k : Nat} {R : Nat → Nat → Nat} {p m : Nat → Nat} (h : RRE D n k R p) (hm : El D m) (hb : Bd k m) (h0 : wtn (enw D R m k) n = 0) : m = pnil := by
  funext i
  by_cases hi : i < k
  · have := wtn_zero n h0 (p i) (h.lt i hi)
    rw [enw_piv F h hm hi k (Nat.le_refl _), if_pos hi] at this
    exact this
  · exact hb i (by omega)
theorem wcn_has {D : FD} (F : Fld D) {R : Nat → Nat → Nat} {n k x : Nat} {m : Nat → Nat} (hm : El D m) (hb : Bd k m) (hx : wtn (enw D R m k) n = x) : 0 < wcn D R n k (D.q ^ k) x := by
  have h : bi (decide (wtn (enw D R m k) n = x)) ≤ wsum D.q k (fun m => bi (decide (wtn (enw D R m k) n = x))) := wsum_point F k (g := fun m => bi (decide (wtn (enw D R m k) n = x))) (fun _ _ _ => bi_nn _) hm hb
  rw [← wcn_wsum F, decide_eq_true hx, bi_t] at h
  omega
theorem far_of {D : FD} (F : Fld D) {n k d : Nat} {R : Nat → Nat → Nat} {p : Nat → Nat} (h : RRE D n k R p) (hd : ∀ i, 0 < i → i < d → wcn D R n k (D.q ^ k) i = 0) : Far D n k R d := fun m hm hb h0 => by
  rcases Nat.lt_or_ge (wtn (enw D R m k) n) d with c | c
  · exfalso
    have h1 : wtn (enw D R m k) n ≠ 0 := fun e => h0 (enw_wt0 F h hm hb e)
    have h2 := hd _ (by omega) c
    have h3 := wcn_has F (R := R) (n := n) hm hb rfl
    omega
  · exact c
theorem enw_last {D : FD} (F : Fld D) {R : Nat → Nat → Nat} {K : Nat} (he : El D (R K)) : enw D R (pt pnil K 1) (K + 1) = R K := by
  show padd D (enw D R (pt pnil K 1) K) (pscale D (pt pnil K 1 K) (R K)) = R K
  rw [enw_zc (y := pnil) (fun i hi => pt_lo _ hi), enw_pnil F, pt_at, pscale_one F he]
  funext j
  show D.ad 0 (R K j) = R K j
  exact zero_ad F (he j)
theorem unit_ne (K : Nat) : pt pnil K 1 ≠ pnil := fun e => by
  have := congrFun e K
  rw [pt_at] at this
  exact Nat.one_ne_zero this
theorem wtn_low {u : Nat → Nat} : ∀ n c, (∀ j, j < c → u j = 0) → c ≤ n → wtn u n ≤ n - c
  | 0, _, _, _ => Nat.zero_le _
  | n + 1, c, h, hc => by
    show wtn u n + (if (!decide (((u n : Nat) : Int) = 0)) = true then 1 else 0) ≤ n + 1 - c
    by_cases e : c = n + 1
    · have h1 := wtn_low n n (fun j hj => h j (by omega)) (Nat.le_refl _)
      rw [if_neg (by simp [h n (by omega)])]
      omega
    · have h1 := wtn_low n c h (by omega)
      split <;> omega
theorem piv_ge {D : FD} {n k : Nat} {R : Nat → Nat → Nat} {p : Nat → Nat} (h : RRE D n k R p) : ∀ i, i < k → i ≤ p i
  | 0, _ => Nat.zero_le _
  | i + 1, hi => by
    have h1 := piv_ge h i (by omega)
    have h2 := h.mono i (i + 1) (by omega) hi
    omega
/-- Singleton. -/
theorem far_sgl {D : FD} (F : Fld D) {n k d : Nat} {R : Nat → Nat → Nat} {p : Nat → Nat} (h : RRE D n k R p) (hf : Far D n k R d) (hk : 1 ≤ k) : k + d ≤ n + 1 := by
  obtain ⟨K, rfl⟩ : ∃ K, k = K + 1 := ⟨k - 1, by omega⟩
  have h1 := hf (pt pnil K 1) (pt_el (el_nil F) (by have := F.q2; omega)) (pt_bd (fun _ _ => rfl)) (unit_ne K)
  rw [enw_last F (h.el K (by omega))] at h1
  have h2 := piv_ge h K (by omega)
  have h3 := h.lt K (by omega)
  have h4 := wtn_low n (p K) (fun j hj => h.lead K j (by omega) hj) (by omega)
  omega
end Go.Proofs.YtppggchhkckobaaGreat

/- Plain mathematics: Griesmer's bound (words of a code where others are nought). No Go text here. -/
namespace Go.Proofs.YtppggchhkckobaaGreat
open Go.RowKit Go.Sort

end Go.Proofs.YtppggchhkckobaaGreat

/- Plain mathematics: Hamming's bound (balls around a code's words), and Varshamov's number against it. No Go text here. -/
namespace Go.Proofs.YtppggchhkckobaaGreat
open Go.RowKit Go.Sort

end Go.Proofs.YtppggchhkckobaaGreat

/- TopBounds: the walk of the statement, whatever raw numbers it is given (printed by make/kn2.py). -/
namespace Go.Proofs.YtppggchhkckobaaGreat
open Go.RowKit Go.Sort

theorem Cod.dist {D : FD} (hD : D ∈ fieldsL) {n m : Nat} (ca : Nat) {ao : Option Addr} {M : Nat → Nat → Nat} {w : World} (h : Cod D n ao m M w) :
    Calls Tryz.prog 29 #[.agg #[.int .i64 D.q, .int .i64 (n : Nat), .slice ao m ca]] w (DsP D n m M w) :=
  distance_ok (h.rows (fld hD)).2.1.2 (fun _ hx => Cod.wts hD ca (h.below hx))
theorem lwt_none {D : FD} (F : Fld D) {n k : Nat} {R : Nat → Nat → Nat} {p : Nat → Nat} (h : RRE D n k R p) (hL : Lwt (wcn D R n k (D.q ^ k)) (n + 1) 0) : k = 0 := by
  rcases hL with ⟨_, h0⟩ | ⟨h0, _⟩
  · rcases Nat.lt_or_ge 0 k with c | c
    · have := far_sgl F h (far_of F h (d := n + 1) h0) c
      omega
    · omega
  · omega
end Go.Proofs.YtppggchhkckobaaGreat

/- Golay: places as the bits of a number, of both sides. -/
namespace Go.Proofs.YtppggchhkckobaaGreat
open Go.RowKit

end Go.Proofs.YtppggchhkckobaaGreat

/- Polar: what its functions come to: the transform (half by half, and bit by bit), the chances, the best places. -/
namespace Go.Proofs.YtppggchhkckobaaGreat

/-- Half by half. -/
def ptr : Nat → (Nat → Nat) → Nat → Nat
  | 0, w => w
  | m + 1, w => fun i => if i < 2 ^ m then (ptr m w i + ptr m (fun j => w (j + 2 ^ m)) i) % 2 else ptr m (fun j => w (j + 2 ^ m)) (i - 2 ^ m)
end Go.Proofs.YtppggchhkckobaaGreat

/- Polar: sums of parts, what is sent of two halves. -/
namespace Go.Proofs.YtppggchhkckobaaGreat
open Go.RowKit Go.Sort

end Go.Proofs.YtppggchhkckobaaGreat

/- Polar: the chances: halved, checkLevels, Chances. -/
namespace Go.Proofs.YtppggchhkckobaaGreat
open Go.RowKit Go.Sort

theorem list_zl : ∀ l : List Int, l = zl l.length (fun i => l.getD i 0) := fun l => by
  apply List.ext_getElem?
  intro i
  by_cases h : i < l.length
  · rw [zl_get _ _ i h, List.getElem?_eq_getElem h, List.getD_eq_getElem?_getD, List.getElem?_eq_getElem h]; rfl
  · rw [List.getElem?_eq_none (by omega), List.getElem?_eq_none (by rw [zl_len]; omega)]

end Go.Proofs.YtppggchhkckobaaGreat

/- Polar: Chances. -/
namespace Go.Proofs.YtppggchhkckobaaGreat
open Go.RowKit Go.Sort

theorem OwnI.argOf {base n : Nat} {v : Value} {l : List Int} {w : World} (h : OwnI base v l w) (hl : l.length = n) : ∃ ao ca, v = .slice ao n ca ∧ ArgL ao n ca (fun i => l.getD i 0) w := by
  subst hl
  have h2 : OwnI base v (zl l.length fun i => l.getD i 0) w := by rw [← list_zl l]; exact h
  exact h2.argL
end Go.Proofs.YtppggchhkckobaaGreat
