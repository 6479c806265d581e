/- Texts of ours, one behind the other: S52 S53 KN1 S54. -/
import Derived.Test.YtbofcldmgjeklabZS49
import Derived.Test.YtbofcldmgjeklabZKL4
import Derived.Test.YtbofcldmgjeklabZKA8
import Derived.Test.YtbofcldmgjeklabZKA6
import Derived.Test.YtbofcldmgjeklabZKB3
import Derived.Test.YtbofcldmgjeklabZS13
import Derived.Test.YtbofcldmgjeklabZX18
import Derived.Test.YtbofcldmgjeklabZI8
import Derived.Test.YtbofcldmgjeklabZKL3
import Derived.Test.YtbofcldmgjeklabZK8
import Derived.Test.YtbofcldmgjeklabZKL7
import Derived.Test.YtbofcldmgjeklabZR5
/- Plain mathematics: the weights of a code, gone through by its messages, and MacWilliams' identity for them. No Go text here. -/
namespace Go.Proofs.Ytbofcldmgjeklab
open Go.RowKit Go.Sort

theorem zsum_addn (g : Nat → Int) (n : Nat) : ∀ m, zsum g (n + m) = zsum g n + zsum (fun b => g (n + b)) m
  | 0 => by show zsum g n = zsum g n + 0; omega
  | m + 1 => by
    show zsum g (n + m) + g (n + m) = zsum g n + (zsum (fun b => g (n + b)) m + g (n + m))
    rw [zsum_addn g n m]; omega
theorem zsum_prod (g : Nat → Int) (q : Nat) : ∀ m, zsum g (m * q) = zsum (fun a => zsum (fun b => g (a * q + b)) q) m
  | 0 => by rw [Nat.zero_mul]; rfl
  | m + 1 => by
    rw [Nat.succ_mul, zsum_addn, zsum_prod g q m]; rfl
theorem dgs_pt {q k a b : Nat} (hq : 2 ≤ q) (hb : b < q) : dgs q (k + 1) (a * q + b) = pt (dgs q k a) k b := by
  funext j
  unfold pt dgs
  by_cases e : j = k
  · rw [if_pos e, if_pos (by omega), e, show k + 1 - 1 - k = 0 by omega, Nat.pow_zero, Nat.div_one, Nat.mul_comm, Nat.mul_add_mod, Nat.mod_eq_of_lt hb]
  · rw [if_neg e]
    by_cases c : j < k
    · rw [if_pos c, if_pos (by omega), show k + 1 - 1 - j = (k - 1 - j) + 1 by omega, Nat.pow_succ', ← Nat.div_div_eq_div_mul, Nat.mul_comm a q, Nat.mul_add_div (by omega), Nat.div_eq_of_lt hb, Nat.add_zero]
    · rw [if_neg c, if_neg (by omega)]
/-- A sum over all messages by their numbers. -/
theorem wsum_dgs {q : Nat} (hq : 2 ≤ q) : ∀ k (f : (Nat → Nat) → Int), zsum (fun r => f (dgs q k r)) (q ^ k) = wsum q k f
  | 0, f => by
    rw [Nat.pow_zero]
    show 0 + f (dgs q 0 0) = f pnil
    have e : dgs q 0 0 = pnil := by funext j; unfold dgs; rw [if_neg (by omega)]; rfl
    rw [e]; omega
  | k + 1, f => by
    rw [Nat.pow_succ, zsum_prod]
    have h1 : zsum (fun a => zsum (fun b => f (dgs q (k + 1) (a * q + b))) q) (q ^ k) = zsum (fun a => zsum (fun b => f (pt (dgs q k a) k b)) q) (q ^ k) := zsum_congr _ (fun a _ => zsum_congr _ (fun b hb => by rw [dgs_pt hq hb]))
    rw [h1, zsum_swap (fun a b => f (pt (dgs q k a) k b))]
    show _ = zsum (fun b => wsum q k (fun v => f (pt v k b))) q
    exact zsum_congr _ (fun b _ => wsum_dgs hq k (fun v => f (pt v k b)))
theorem wcn_zsum (D : FD) (R : Nat → Nat → Nat) (n K x : Nat) : ∀ N, ((wcn D R n K N x : Nat) : Int) = zsum (fun r => bi (decide (wtn (enw D R (dgs D.q K r) K) n = x))) N
  | 0 => rfl
  | N + 1 => by
    show ((wcn D R n K N x + if x = wgr D R n K N then 1 else 0 : Nat) : Int) = zsum _ N + bi (decide (wtn (enw D R (dgs D.q K N) K) n = x))
    rw [← wcn_zsum D R n K x N]
    have e : wgr D R n K N = wtn (enw D R (dgs D.q K N) K) n := rfl
    by_cases c : x = wgr D R n K N
    · rw [if_pos c, decide_eq_true (by rw [← e]; exact c.symm), bi_t]; omega
    · rw [if_neg c, decide_eq_false (by rw [← e]; exact fun h => c h.symm), bi_f]; omega
/-- How many words have a weight: a sum over all messages. -/
theorem wcn_wsum {D : FD} (F : Fld D) (R : Nat → Nat → Nat) (n K x : Nat) : ((wcn D R n K (D.q ^ K) x : Nat) : Int) = wsum D.q K (fun m => bi (decide (wtn (enw D R m K) n = x))) := by
  rw [wcn_zsum, wsum_dgs F.q2 K (fun m => bi (decide (wtn (enw D R m K) n = x)))]
theorem vsm_zsum (f K : Nat → Int) : ∀ r, vsm f K r = zsum (fun x => f x * K x) r
  | 0 => rfl
  | r + 1 => by
    show vsm f K r + f r * K r = zsum (fun x => f x * K x) r + f r * K r
    rw [vsm_zsum f K r]
theorem wsum_one (q : Nat) : ∀ k, wsum q k (fun _ => 1) = ((q ^ k : Nat) : Int)
  | 0 => rfl
  | k + 1 => by
    show zsum (fun _ => wsum q k (fun _ => 1)) q = _
    rw [wsum_one q k, zsum_const, Nat.pow_succ, Nat.mul_comm]
    simp
end Go.Proofs.Ytbofcldmgjeklab

/- A code's weights and those of its dual: what weights.Dual makes of them. -/
namespace Go.Proofs.Ytbofcldmgjeklab
open Go.RowKit Go.Sort

theorem wtn_zero {u : Nat → Nat} : ∀ n, wtn u n = 0 → ∀ j, j < n → u j = 0
  | 0, _, j, hj => absurd hj (by omega)
  | n + 1, h, j, hj => by
    have h' : wtn u n + (if (!decide (((u n : Nat) : Int) = 0)) = true then 1 else 0) = 0 := h
    by_cases e : u n = 0
    · rcases Nat.lt_or_ge j n with c | c
      · exact wtn_zero n (by omega) j c
      · rw [show j = n by omega, e]
    · rw [if_pos (by simp; omega)] at h'
      omega
theorem wtn_pnil : ∀ n, wtn pnil n = 0
  | 0 => rfl
  | n + 1 => by
    show wtn pnil n + (if (!decide (((pnil n : Nat) : Int) = 0)) = true then 1 else 0) = 0
    rw [wtn_pnil n, if_neg (by simp [pnil])]
theorem enw_pnil {D : FD} (F : Fld D) (R : Nat → Nat → Nat) : ∀ k, enw D R pnil k = pnil
  | 0 => rfl
  | k + 1 => by rw [enw_zero F (show pnil k = 0 from rfl), enw_pnil F R k]
/-- No more rows than there were. -/
theorem Red.few {D : FD} (hD : D ∈ fieldsL) {n m k : Nat} {M R : Nat → Nat → Nat} (h : Red D n m M k R) (he : ∀ i, i < m → El D (M i) ∧ Bd n (M i)) : k ≤ m := by
  obtain ⟨k', R', p', hk, hr, hs⟩ := rre_ex hD (fun i hi => (he i hi).1) (fun i hi => (he i hi).2)
  have := (Red.uniq (fld hD) h ⟨p', hr, hs⟩ (fun _ => Iff.rfl)).1
  omega
theorem wck_is {D : FD} {n : Nat} (hn : 1 ≤ n) : D.wck (n : Nat) = if D.q ^ n ≤ 1073741824 then 0 else 4 := by
  unfold FD.wck
  rw [if_neg (by omega), Int.toNat_natCast]
end Go.Proofs.Ytbofcldmgjeklab

/- TopMacWilliams: the walk of the statement, whatever raw numbers it is given. -/
namespace Go.Proofs.Ytbofcldmgjeklab
open Go.RowKit Go.Sort

theorem Cod.wts {D : FD} (hD : D ∈ fieldsL) {n m : Nat} (ca : Nat) {ao : Option Addr} {M : Nat → Nat → Nat} {w : World} (h : Cod D n ao m M w) :
    Calls Try.prog 26 #[.agg #[.int .i64 D.q, .int .i64 (n : Nat), .slice ao m ca]] w (WsP D n m M w) := by
  have hr := h.rows (fld hD)
  have hc := h.chk hD ca
  obtain ⟨A, N, C, Z, h1, h2⟩ := h
  refine (weights_ok hD hr.2.1.1 hr.2.1.2 (M := mzc N Z) (fun wx hx => small_ok hD (h1.below hx) (fun wy hy => hc wy (bel_up' hx hy)))).mono ?_
  rintro x w' ⟨k, R, hred, hrest⟩
  exact ⟨k, R, hred.of_eq h2, hrest⟩
end Go.Proofs.Ytbofcldmgjeklab

/- Plain mathematics: the bounds of Singleton, Delsarte and Plotkin for a code whose words lie apart. No Go text here. -/
namespace Go.Proofs.Ytbofcldmgjeklab
open Go.RowKit Go.Sort

theorem wsum_le {D : FD} (F : Fld D) : ∀ n {f g : (Nat → Nat) → Int}, (∀ v, El D v → Bd n v → f v ≤ g v) → wsum D.q n f ≤ wsum D.q n g
  | 0, _, _, h => h pnil (el_nil F) (fun _ _ => rfl)
  | n + 1, _, _, h => zsum_le D.q (fun _ ha => wsum_le F n (fun _ hv hb => h _ (pt_el hv ha) (pt_bd hb)))
theorem wsum_nn {D : FD} (F : Fld D) (n : Nat) {f : (Nat → Nat) → Int} (h : ∀ v, El D v → Bd n v → 0 ≤ f v) : 0 ≤ wsum D.q n f := by
  have := wsum_le F n (f := fun _ => 0) h
  rwa [wsum_nil] at this
theorem wsum_point {D : FD} (F : Fld D) (n : Nat) {g : (Nat → Nat) → Int} (h : ∀ v, El D v → Bd n v → 0 ≤ g v) {v : Nat → Nat} (hv : El D v) (hb : Bd n v) : g v ≤ wsum D.q n g := by
  have e := wsum_at F n g hv hb
  rw [← e]
  refine wsum_le F n (fun u hu hub => ?_)
  have := h u hu hub
  cases agB n u v
  · rw [bi_f]; omega
  · rw [bi_t]; omega
theorem agB_nil {k : Nat} : agB k pnil pnil = true := agB_iff.2 (fun _ _ => rfl)
/-- All words of a code but nought weigh d at least. -/
def Far (D : FD) (n k : Nat) (R : Nat → Nat → Nat) (d : Nat) : Prop := ∀ m, El D m → Bd k m → m ≠ pnil → d ≤ wtn (enw D R m k) n
theorem enw_wt0 {D : FD} (F : Fld D) {n k : Nat} {R : Nat → Nat → Nat} {p m : Nat → Nat} (h : RRE D n k R p) (hm : El D m) (hb : Bd k m) (h0 : wtn (enw D R m k) n = 0) : m = pnil := by
  funext i
  by_cases hi : i < k
  · have := wtn_zero n h0 (p i) (h.lt i hi)
    rw [enw_piv F h hm hi k (Nat.le_refl _), if_pos hi] at this
    exact this
  · exact hb i (by omega)
theorem wcn_has {D : FD} (F : Fld D) {R : Nat → Nat → Nat} {n k x : Nat} {m : Nat → Nat} (hm : El D m) (hb : Bd k m) (hx : wtn (enw D R m k) n = x) : 0 < wcn D R n k (D.q ^ k) x := by
  have h : bi (decide (wtn (enw D R m k) n = x)) ≤ wsum D.q k (fun m => bi (decide (wtn (enw D R m k) n = x))) := wsum_point F k (g := fun m => bi (decide (wtn (enw D R m k) n = x))) (fun _ _ _ => bi_nn _) hm hb
  rw [← wcn_wsum F, decide_eq_true hx, bi_t] at h
  omega
theorem far_of {D : FD} (F : Fld D) {n k d : Nat} {R : Nat → Nat → Nat} {p : Nat → Nat} (h : RRE D n k R p) (hd : ∀ i, 0 < i → i < d → wcn D R n k (D.q ^ k) i = 0) : Far D n k R d := fun m hm hb h0 => by
  rcases Nat.lt_or_ge (wtn (enw D R m k) n) d with c | c
  · exfalso
    have h1 : wtn (enw D R m k) n ≠ 0 := fun e => h0 (enw_wt0 F h hm hb e)
    have h2 := hd _ (by omega) c
    have h3 := wcn_has F (R := R) (n := n) hm hb rfl
    omega
  · exact c
theorem enw_last {D : FD} (F : Fld D) {R : Nat → Nat → Nat} {K : Nat} (he : El D (R K)) : enw D R (pt pnil K 1) (K + 1) = R K := by
  show padd D (enw D R (pt pnil K 1) K) (pscale D (pt pnil K 1 K) (R K)) = R K
  rw [enw_zc (y := pnil) (fun i hi => pt_lo _ hi), enw_pnil F, pt_at, pscale_one F he]
  funext j
  show D.ad 0 (R K j) = R K j
  exact zero_ad F (he j)
theorem unit_ne (K : Nat) : pt pnil K 1 ≠ pnil := fun e => by
  have := congrFun e K
  rw [pt_at] at this
  exact Nat.one_ne_zero this
theorem wtn_low {u : Nat → Nat} : ∀ n c, (∀ j, j < c → u j = 0) → c ≤ n → wtn u n ≤ n - c
  | 0, _, _, _ => Nat.zero_le _
  | n + 1, c, h, hc => by
    show wtn u n + (if (!decide (((u n : Nat) : Int) = 0)) = true then 1 else 0) ≤ n + 1 - c
    by_cases e : c = n + 1
    · have h1 := wtn_low n n (fun j hj => h j (by omega)) (Nat.le_refl _)
      rw [if_neg (by simp [h n (by omega)])]
      omega
    · have h1 := wtn_low n c h (by omega)
      split <;> omega
theorem piv_ge {D : FD} {n k : Nat} {R : Nat → Nat → Nat} {p : Nat → Nat} (h : RRE D n k R p) : ∀ i, i < k → i ≤ p i
  | 0, _ => Nat.zero_le _
  | i + 1, hi => by
    have h1 := piv_ge h i (by omega)
    have h2 := h.mono i (i + 1) (by omega) hi
    omega
/-- Singleton. -/
theorem far_sgl {D : FD} (F : Fld D) {n k d : Nat} {R : Nat → Nat → Nat} {p : Nat → Nat} (h : RRE D n k R p) (hf : Far D n k R d) (hk : 1 ≤ k) : k + d ≤ n + 1 := by
  obtain ⟨K, rfl⟩ : ∃ K, k = K + 1 := ⟨k - 1, by omega⟩
  have h1 := hf (pt pnil K 1) (pt_el (el_nil F) (by have := F.q2; omega)) (pt_bd (fun _ _ => rfl)) (unit_ne K)
  rw [enw_last F (h.el K (by omega))] at h1
  have h2 := piv_ge h K (by omega)
  have h3 := h.lt K (by omega)
  have h4 := wtn_low n (p K) (fun j hj => h.lead K j (by omega) hj) (by omega)
  omega
/-- The transform of a code's weights is not less than nought. -/
theorem mac_nn {D : FD} (hD : D ∈ fieldsL) {n k : Nat} {R : Nat → Nat → Nat} {p : Nat → Nat} (h : RRE D n k R p) (j : Nat) : 0 ≤ wsum D.q k (fun m => kv D.q n j (wtn (enw D R m k) n)) := by
  have F := fld hD
  have hq1 : 0 < ((D.q : Int) - 1) := by have := F.q2; omega
  have hc0 : chi D.q 0 = (D.q : Int) - 1 := if_pos rfl
  have h1 : ((D.q : Int) - 1) * wsum D.q k (fun m => kv D.q n j (wtn (enw D R m k) n)) = wsum D.q n (fun u => wsum D.q k (fun m => bi (decide (wtn u n = j)) * chi D.q (D.ad 0 (dot D (enw D R m k) u n)))) := by
    refine Eq.symm ((wsum_swap D.q n k _).trans ?_)
    rw [← wsum_mul]
    refine wsum_congr F k (fun m _ _ => ?_)
    rw [wt_sum hD (enw_el F k) n j (zero_lt' F), hc0, kpc_kv]
    rfl
  have h2 : 0 ≤ wsum D.q n (fun u => wsum D.q k (fun m => bi (decide (wtn u n = j)) * chi D.q (D.ad 0 (dot D (enw D R m k) u n)))) := wsum_nn F n (fun u _ _ => by
    rw [wsum_mul, wsum_congr F k (g := fun m => chi D.q (D.ad 0 (dot D (fun i => dot D (R i) u n) m k))) (fun m _ _ => by rw [dot_enw F h.el k (Nat.le_refl _)]), msg_sum hD (fun i => dot_lt F _ _ _) k (zero_lt' F), hc0]
    exact Int.mul_nonneg (bi_nn _) (Int.mul_nonneg (bi_nn _) (Int.mul_nonneg (Int.pow_nonneg (by omega)) (by omega))))
  rw [← h1] at h2
  rcases Int.lt_or_le (wsum D.q k (fun m => kv D.q n j (wtn (enw D R m k) n))) 0 with c | c
  · have := Int.mul_neg_of_pos_of_neg hq1 c
    omega
  · exact c
theorem far_nil {D : FD} (F : Fld D) {n k : Nat} (R : Nat → Nat → Nat) : wtn (enw D R pnil k) n = 0 := by rw [enw_pnil F, wtn_pnil]
/-- Delsarte. -/
theorem far_del {D : FD} (hD : D ∈ fieldsL) {n k d : Nat} {R : Nat → Nat → Nat} {p : Nat → Nat} (h : RRE D n k R p) (hf : Far D n k R d) {f : Nat → Int} (h0 : f 0 = 1) (hn : ∀ j, j ≤ n → 0 ≤ f j) (hx : ∀ x, d ≤ x → x ≤ n → dsm D.q n f x ≤ 0) : ((D.q ^ k : Nat) : Int) ≤ dsm D.q n f 0 := by
  have F := fld hD
  have hup : wsum D.q k (fun m => dsm D.q n f (wtn (enw D R m k) n)) ≤ dsm D.q n f 0 := by
    have e := wsum_at F k (fun _ => dsm D.q n f 0) (el_nil F) (fun _ _ => rfl)
    refine Int.le_trans (wsum_le F k (fun m hm hb => ?_)) (Int.le_of_eq e)
    by_cases c : m = pnil
    · rw [c, far_nil F, agB_nil, bi_t]; omega
    · have h1 : agB k m pnil = false := by
        rw [Bool.eq_false_iff]
        exact fun e => c ((agB_eq hb (fun _ _ => rfl)).1 e)
      rw [h1, bi_f]
      have := hx _ (hf m hm hb c) (wtn_le _ _)
      omega
  have hlo : ((D.q ^ k : Nat) : Int) ≤ wsum D.q k (fun m => dsm D.q n f (wtn (enw D R m k) n)) := by
    have e : wsum D.q k (fun m => dsm D.q n f (wtn (enw D R m k) n)) = zsum (fun j => f j * wsum D.q k (fun m => kv D.q n j (wtn (enw D R m k) n))) (n + 1) := by
      rw [wsum_congr F k (f := fun m => dsm D.q n f (wtn (enw D R m k) n)) (g := fun m => zsum (fun j => f j * kv D.q n j (wtn (enw D R m k) n)) (n + 1)) (fun m _ _ => vsm_zsum _ _ _), wsum_zsum D.q (fun j m => f j * kv D.q n j (wtn (enw D R m k) n))]
      exact zsum_congr _ (fun j _ => wsum_mul _ _ _ _)
    rw [e]
    have e2 : ∀ r, r ≤ n → ((D.q ^ k : Nat) : Int) ≤ zsum (fun j => f j * wsum D.q k (fun m => kv D.q n j (wtn (enw D R m k) n))) (r + 1) := fun r => by
      induction r with
      | zero =>
        intro _
        show _ ≤ 0 + f 0 * wsum D.q k (fun m => kv D.q n 0 (wtn (enw D R m k) n))
        rw [h0, wsum_congr F k (f := fun m => kv D.q n 0 (wtn (enw D R m k) n)) (g := fun _ => 1) (fun m _ _ => kc_zero _ _), wsum_one]
        omega
      | succ r ih =>
        intro hr
        have h1 := ih (by omega)
        show _ ≤ zsum (fun j => f j * wsum D.q k (fun m => kv D.q n j (wtn (enw D R m k) n))) (r + 1) + f (r + 1) * wsum D.q k (fun m => kv D.q n (r + 1) (wtn (enw D R m k) n))
        have h2 := Int.mul_nonneg (hn (r + 1) hr) (mac_nn hD h (r + 1))
        omega
    exact e2 n (Nat.le_refl _)
  omega
theorem kc_first (b : Int) (x : Nat) : ∀ i : Nat, kc (kwc b x) i 1 = if i ≤ x then -(i : Int) else ((i : Int) - x) * b - x
  | 0 => by rw [if_pos (Nat.zero_le _)]; rfl
  | i + 1 => by
    show kc (kwc b x) i 1 + kwc b x i * kc (kwc b x) i 0 = _
    have e : ((i + 1 : Nat) : Int) = (i : Int) + 1 := by omega
    rw [kc_first b x i, kc_zero, Int.mul_one, e]
    unfold kwc
    by_cases h : i < x
    · rw [if_pos h, if_pos (by omega), if_pos (by omega)]; omega
    · rw [if_neg h, if_neg (show ¬ i + 1 ≤ x by omega)]
      by_cases h2 : i ≤ x
      · rw [if_pos h2, show (i : Int) + 1 - x = 1 by omega, Int.one_mul]; omega
      · rw [if_neg h2, show (i : Int) + 1 - x = (i - x) + 1 by omega, Int.add_mul, Int.one_mul]; omega
theorem kv_first {q n x : Nat} (hx : x ≤ n) : kv q n 1 x = (n : Int) * ((q : Int) - 1) - (q : Int) * x := by
  unfold kv
  rw [kc_first]
  by_cases h : n ≤ x
  · have e : n = x := by omega
    rw [if_pos h, e, Int.mul_sub, Int.mul_one, Int.mul_comm]; omega
  · rw [if_neg h, Int.sub_mul, Int.mul_sub (x : Int), Int.mul_one, Int.mul_comm (x : Int)]; omega
/-- Plotkin. -/
theorem far_plk {D : FD} (hD : D ∈ fieldsL) {n k d : Nat} {R : Nat → Nat → Nat} {p : Nat → Nat} (h : RRE D n k R p) (hf : Far D n k R d) : ((D.q ^ k : Nat) : Int) * ((D.q : Int) * d - (n : Int) * ((D.q : Int) - 1)) ≤ (D.q : Int) * d := by
  have F := fld hD
  obtain ⟨A, hA⟩ : ∃ A, A = (n : Int) * ((D.q : Int) - 1) := ⟨_, rfl⟩
  obtain ⟨B, hB⟩ : ∃ B, B = (D.q : Int) * d := ⟨_, rfl⟩
  have h1 := mac_nn hD h 1
  have h2 : wsum D.q k (fun m => kv D.q n 1 (wtn (enw D R m k) n)) ≤ wsum D.q k (fun m => (A - B) * 1 + bi (agB k m pnil) * (fun _ => B) m) := by
    refine wsum_le F k (fun m hm hb => ?_)
    rw [kv_first (wtn_le _ _), ← hA]
    show _ ≤ (A - B) * 1 + bi (agB k m pnil) * B
    by_cases c : m = pnil
    · rw [c, far_nil F, agB_nil, bi_t]; omega
    · have e1 : agB k m pnil = false := by
        rw [Bool.eq_false_iff]
        exact fun e => c ((agB_eq hb (fun _ _ => rfl)).1 e)
      rw [e1, bi_f]
      have h3 : (D.q : Int) * d ≤ (D.q : Int) * (wtn (enw D R m k) n) := Int.mul_le_mul_of_nonneg_left (by have := hf m hm hb c; omega) (by omega)
      rw [← hB] at h3
      omega
  rw [wsum_add, wsum_at F k (fun _ => B) (el_nil F) (fun _ _ => rfl), wsum_mul, wsum_one] at h2
  rw [← hA, ← hB, Int.mul_sub]
  rw [Int.sub_mul, Int.mul_comm A, Int.mul_comm B] at h2
  omega
theorem plk_ge {D : FD} (hD : D ∈ fieldsL) {n k d : Nat} {R : Nat → Nat → Nat} {p : Nat → Nat} (h : RRE D n k R p) (hf : Far D n k R d) (h0 : 0 < plk D.q n d) : D.q ^ k ≤ plk D.q n d := by
  have F := fld hD
  have h2 := F.q2
  unfold plk at h0 ⊢
  by_cases c : n * (D.q - 1) < D.q * d
  · rw [if_pos c]
    have h1 := far_plk hD h hf
    rw [Nat.le_div_iff_mul_le (by omega)]
    have e : ((D.q : Int) - 1) = ((D.q - 1 : Nat) : Int) := by omega
    rw [e, ← Int.natCast_mul, ← Int.natCast_mul, show ((D.q * d : Nat) : Int) - ((n * (D.q - 1) : Nat) : Int) = ((D.q * d - n * (D.q - 1) : Nat) : Int) by omega, ← Int.natCast_mul] at h1
    omega
  · rw [if_neg c] at h0; omega
end Go.Proofs.Ytbofcldmgjeklab
