/- Texts of ours, one behind the other: S50 S52. -/
import Derived.Test.YtbofcldmgjeklabZKL7
import Derived.Test.YtbofcldmgjeklabZS20
import Derived.Test.YtbofcldmgjeklabZH2
import Derived.Test.YtbofcldmgjeklabZI8
import Derived.Test.YtbofcldmgjeklabZKL4
import Derived.Test.YtbofcldmgjeklabZKA4
/- Plain mathematics: MacWilliams' identity, by sums over all words. No Go text here. -/
namespace Go.Proofs.Ytbofcldmgjeklab
open Go.RowKit Go.Sort

/-- What all characters but the first one sum up to. -/
def chi (q a : Nat) : Int := if a = 0 then (q : Int) - 1 else -1
theorem chi_sum {q : Nat} (hq : 1 ≤ q) : zsum (chi q) q = 0 := by
  have e : zsum (chi q) q = zsum (fun a => (if a = 0 then (fun _ => (q : Int)) a else 0) + (fun _ => (-1 : Int)) a) q := zsum_congr q (fun a _ => by
    unfold chi
    by_cases e : a = 0
    · rw [if_pos e, if_pos e]
      show (q : Int) - 1 = (q : Int) + -1
      omega
    · rw [if_neg e, if_neg e]
      show (-1 : Int) = 0 + -1
      omega)
  rw [e, zsum_add, zsum_one (fun _ => (q : Int)) q hq, zsum_const]
  omega
theorem chi_lin {D : FD} (hD : D ∈ fieldsL) {b s : Nat} (hb : b < D.q) (hs : s < D.q) (h0 : s ≠ 0) : zsum (fun a => chi D.q (D.ad b (D.mul s a))) D.q = 0 := by
  have F := fld hD
  rw [zsum_turn (chi D.q) (fun a => D.ad b (D.mul s a)) (fun c => D.mul (D.iv s) (D.sb c b)) D.q (fun a _ => ad_lt F hb (F.mul_lt _ _)) (fun c _ => F.mul_lt _ _) (fun a ha => ?_) (fun c hc => ?_)]
  · exact chi_sum (by have := F.q2; omega)
  · show D.mul (D.iv s) (D.sb (D.ad b (D.mul s a)) b) = a
    rw [ad_comm F b, sb_ad F (F.mul_lt _ _) hb, ← F.mul_assoc, F.mul_comm (D.iv s) s, iv_is hD hs h0, omul F ha]
  · show D.ad b (D.mul s (D.mul (D.iv s) (D.sb c b))) = c
    rw [← F.mul_assoc, iv_is hD hs h0, omul F (sb_lt F hc hb), ad_sb F hc hb]
theorem dot_pt {D : FD} (s v : Nat → Nat) (k a : Nat) : dot D s (pt v k a) (k + 1) = D.ad (dot D s v k) (D.mul (s k) a) := by
  show D.ad (dot D s (pt v k a) k) (D.mul (s k) (pt v k a k)) = _
  rw [pt_at, dot_congr (a' := s) (b' := v) k (fun j hj => ⟨rfl, pt_lo v hj⟩)]
theorem ad_turn {D : FD} (F : Fld D) {b x y : Nat} (hb : b < D.q) (hx : x < D.q) (hy : y < D.q) : D.ad b (D.ad x y) = D.ad (D.ad b y) x := by
  rw [ad_comm F x y, ad_assoc F hb hy hx]
/-- The sum over all messages. -/
theorem msg_sum {D : FD} (hD : D ∈ fieldsL) {s : Nat → Nat} (hs : El D s) : ∀ k {b : Nat}, b < D.q → wsum D.q k (fun m => chi D.q (D.ad b (dot D s m k))) = bi (agB k s pnil) * ((D.q : Int) ^ k * chi D.q b)
  | 0, b, hb => by
    show chi D.q (D.ad b 0) = _
    rw [ad_zero (fld hD) hb, show agB 0 s pnil = true from agB_iff.2 (fun j hj => absurd hj (by omega)), bi_t, Int.pow_zero]
    omega
  | k + 1, b, hb => by
    have F := fld hD
    have h1 : ∀ a, a < D.q → wsum D.q k (fun v => chi D.q (D.ad b (dot D s (pt v k a) (k + 1)))) = bi (agB k s pnil) * ((D.q : Int) ^ k) * chi D.q (D.ad b (D.mul (s k) a)) := fun a _ => by
      rw [Int.mul_assoc, ← msg_sum hD hs k (ad_lt F hb (F.mul_lt (s k) a))]
      refine wsum_congr F k (fun v _ _ => ?_)
      rw [dot_pt, ad_turn F hb (dot_lt F _ _ _) (F.mul_lt _ _)]
    show zsum (fun a => wsum D.q k (fun v => chi D.q (D.ad b (dot D s (pt v k a) (k + 1))))) D.q = _
    rw [zsum_congr D.q h1, zsum_mul]
    by_cases e : s k = 0
    · have e1 : agB (k + 1) s pnil = agB k s pnil := by
        rw [Bool.eq_iff_iff, agB_iff, agB_iff]
        constructor
        · exact fun h j hj => h j (by omega)
        · intro h j hj
          by_cases c : j = k
          · rw [c, e]; rfl
          · exact h j (by omega)
      rw [e1, e, zsum_congr D.q (g := fun _ => chi D.q b) (fun a _ => by rw [zmul F, ad_zero F hb]), zsum_const, Int.pow_succ, Int.mul_assoc, Int.mul_assoc]
    · have e1 : agB (k + 1) s pnil = false := by
        rw [Bool.eq_false_iff]
        intro h
        exact e (agB_iff.1 h k (by omega))
      rw [chi_lin hD hb (hs k) e, e1, bi_f, Int.mul_zero, Int.zero_mul]

/-- A word's weight. -/
def wtn (u : Nat → Nat) (n : Nat) : Nat := ct (fun i => !decide (((u i : Nat) : Int) = 0)) n
theorem wtn_pt (v : Nat → Nat) (n a : Nat) : wtn (pt v n a) (n + 1) = wtn v n + if a = 0 then 0 else 1 := by
  have h : ∀ m, m ≤ n → wtn (pt v n a) m = wtn v m := fun m => by
    induction m with
    | zero => intro _; rfl
    | succ m ih =>
      intro hm
      have := ih (by omega)
      show wtn (pt v n a) m + (if (!decide (((pt v n a m : Nat) : Int) = 0)) = true then 1 else 0) = wtn v m + (if (!decide (((v m : Nat) : Int) = 0)) = true then 1 else 0)
      rw [this, pt_lo v (by omega)]
  show wtn (pt v n a) n + (if (!decide (((pt v n a n : Nat) : Int) = 0)) = true then 1 else 0) = _
  rw [h n (Nat.le_refl _), pt_at]
  by_cases e : a = 0
  · rw [if_pos e, if_neg (by simp [e])]
  · rw [if_neg e, if_pos (by simp; omega)]
theorem wtn_le (u : Nat → Nat) : ∀ n, wtn u n ≤ n
  | 0 => Nat.le_refl _
  | n + 1 => by
    have := wtn_le u n
    show wtn u n + (if (!decide (((u n : Nat) : Int) = 0)) = true then 1 else 0) ≤ n + 1
    split <;> omega
/-- What stands for a word's sign in the product. -/
def kpc (q : Nat) (c : Nat → Nat) : Nat → Int := fun i => if c i = 0 then (q : Int) - 1 else -1
theorem wt_sum {D : FD} (hD : D ∈ fieldsL) {c : Nat → Nat} (hc : El D c) : ∀ n (j : Nat) {b : Nat}, b < D.q → wsum D.q n (fun u => bi (decide (wtn u n = j)) * chi D.q (D.ad b (dot D c u n))) = chi D.q b * kc (kpc D.q c) n j
  | 0, j, b, hb => by
    show bi (decide (0 = j)) * chi D.q (D.ad b 0) = _
    rw [ad_zero (fld hD) hb]
    cases j with
    | zero => show 1 * _ = _ * 1; omega
    | succ j => show 0 * _ = _ * 0; omega
  | n + 1, j, b, hb => by
    have F := fld hD
    obtain ⟨K', hK'⟩ : ∃ K' : Int, K' = if j = 0 then 0 else kc (kpc D.q c) n (j - 1) := ⟨_, rfl⟩
    have hk : kc (kpc D.q c) (n + 1) j = kc (kpc D.q c) n j + kpc D.q c n * K' := by
      cases j with
      | zero => rw [hK', if_pos rfl, Int.mul_zero, Int.add_zero]; rfl
      | succ j => rw [hK', if_neg (by omega)]; rfl
    have h1 : ∀ a, a < D.q → wsum D.q n (fun v => bi (decide (wtn (pt v n a) (n + 1) = j)) * chi D.q (D.ad b (dot D c (pt v n a) (n + 1)))) = (if a = 0 then (fun _ => chi D.q b * kc (kpc D.q c) n j - K' * chi D.q b) a else 0) + K' * chi D.q (D.ad b (D.mul (c n) a)) := fun a _ => by
      have hb' : D.ad b (D.mul (c n) a) < D.q := ad_lt F hb (F.mul_lt _ _)
      by_cases e : a = 0
      · rw [if_pos e]
        have h2 : wsum D.q n (fun v => bi (decide (wtn (pt v n a) (n + 1) = j)) * chi D.q (D.ad b (dot D c (pt v n a) (n + 1)))) = chi D.q b * kc (kpc D.q c) n j := by
          rw [← wt_sum hD hc n j hb]
          refine wsum_congr F n (fun v _ _ => ?_)
          rw [wtn_pt, if_pos e, Nat.add_zero, dot_pt, e, mul0 F, ad_zero F (dot_lt F _ _ _)]
        rw [h2, e, mul0 F, ad_zero F hb]
        show _ = chi D.q b * kc (kpc D.q c) n j - K' * chi D.q b + K' * chi D.q b
        omega
      · rw [if_neg e, Int.zero_add]
        by_cases ej : j = 0
        · rw [hK', if_pos ej, Int.zero_mul, ← wsum_nil D.q n]
          refine wsum_congr F n (fun v _ _ => ?_)
          rw [wtn_pt, if_neg e, decide_eq_false (by omega), bi_f, Int.zero_mul]
        · rw [hK', if_neg ej, Int.mul_comm, ← wt_sum hD hc n (j - 1) hb']
          refine wsum_congr F n (fun v _ _ => ?_)
          rw [wtn_pt, if_neg e, dot_pt, ad_turn F hb (dot_lt F _ _ _) (F.mul_lt _ _)]
          congr 2
          rw [decide_eq_decide]
          omega
    show zsum (fun a => wsum D.q n (fun v => bi (decide (wtn (pt v n a) (n + 1) = j)) * chi D.q (D.ad b (dot D c (pt v n a) (n + 1))))) D.q = _
    rw [zsum_congr D.q h1, zsum_add, zsum_one (fun _ => chi D.q b * kc (kpc D.q c) n j - K' * chi D.q b) D.q (zero_lt' F), zsum_mul, hk, Int.mul_add]
    by_cases e : c n = 0
    · rw [e, zsum_congr D.q (g := fun _ => chi D.q b) (fun a _ => by rw [zmul F, ad_zero F hb]), zsum_const, show kpc D.q c n = (D.q : Int) - 1 from if_pos e]
      have e1 : K' * ((D.q : Int) * chi D.q b) = chi D.q b * ((D.q : Int) * K') := by rw [Int.mul_comm K', Int.mul_comm (D.q : Int) (chi D.q b), Int.mul_assoc]
      have e2 : chi D.q b * (((D.q : Int) - 1) * K') = chi D.q b * ((D.q : Int) * K') - K' * chi D.q b := by rw [Int.sub_mul, Int.one_mul, Int.mul_sub, Int.mul_comm K']
      rw [e1, e2]
      omega
    · rw [chi_lin hD hb (hc n) e, show kpc D.q c n = -1 from if_neg e]
      have e2 : chi D.q b * (-1 * K') = - (K' * chi D.q b) := by rw [Int.neg_mul, Int.one_mul, Int.mul_neg, Int.mul_comm K']
      rw [e2]
      omega
theorem kc_same {c d : Nat → Int} : ∀ n k, (∀ i, i < n → c i = d i) → kc c n k = kc d n k
  | 0, 0, _ => rfl
  | 0, _ + 1, _ => rfl
  | n + 1, 0, h => by show kc c n 0 = kc d n 0; exact kc_same n 0 (fun i hi => h i (by omega))
  | n + 1, k + 1, h => by
    show kc c n (k + 1) + c n * kc c n k = kc d n (k + 1) + d n * kc d n k
    rw [kc_same n (k + 1) (fun i hi => h i (by omega)), kc_same n k (fun i hi => h i (by omega)), h n (by omega)]
/-- One factor 1 - z more. -/
theorem kc_more (b : Int) (x : Nat) : ∀ m k, kc (kwc b (x + 1)) (x + 1 + m) k = kc (kwc b x) (x + m) k - if k = 0 then 0 else kc (kwc b x) (x + m) (k - 1)
  | 0, 0 => by rw [kc_zero, kc_zero]; rfl
  | 0, k + 1 => by
    have e : ∀ t, kc (kwc b (x + 1)) x t = kc (kwc b x) x t := fun t => kc_same x t (fun i hi => by unfold kwc; rw [if_pos (by omega), if_pos hi])
    show kc (kwc b (x + 1)) x (k + 1) + kwc b (x + 1) x * kc (kwc b (x + 1)) x k = kc (kwc b x) x (k + 1) - (if k + 1 = 0 then 0 else kc (kwc b x) x (k + 1 - 1))
    rw [if_neg (by omega), e, e, show kwc b (x + 1) x = -1 from if_pos (by omega), Nat.add_sub_cancel]
    omega
  | m + 1, 0 => by rw [kc_zero, kc_zero]; rfl
  | m + 1, k + 1 => by
    have h1 := kc_more b x m (k + 1)
    have h2 := kc_more b x m k
    rw [if_neg (by omega), Nat.add_sub_cancel] at h1 ⊢
    show kc (kwc b (x + 1)) (x + 1 + m) (k + 1) + kwc b (x + 1) (x + 1 + m) * kc (kwc b (x + 1)) (x + 1 + m) k = kc (kwc b x) (x + m) (k + 1) + kwc b x (x + m) * kc (kwc b x) (x + m) k - kc (kwc b x) (x + m + 1) k
    rw [h1, h2, show kwc b (x + 1) (x + 1 + m) = b from if_neg (by omega), show kwc b x (x + m) = b from if_neg (by omega), Int.mul_sub]
    cases k with
    | zero =>
      rw [if_pos rfl, kc_zero, kc_zero]
      omega
    | succ k =>
      rw [if_neg (by omega), Nat.add_sub_cancel]
      show _ = _ - (kc (kwc b x) (x + m) (k + 1) + kwc b x (x + m) * kc (kwc b x) (x + m) k)
      rw [show kwc b x (x + m) = b from if_neg (by omega)]
      omega
/-- The product hangs on the weight alone. -/
theorem kpc_kv (q : Nat) (c : Nat → Nat) : ∀ n k, kc (kpc q c) n k = kc (kwc ((q : Int) - 1) (wtn c n)) n k
  | 0, 0 => rfl
  | 0, _ + 1 => rfl
  | n + 1, 0 => by rw [kc_zero, kc_zero]
  | n + 1, k + 1 => by
    have hle := wtn_le c n
    show kc (kpc q c) n (k + 1) + kpc q c n * kc (kpc q c) n k = _
    rw [kpc_kv q c n (k + 1), kpc_kv q c n k]
    by_cases e : c n = 0
    · have e1 : wtn c (n + 1) = wtn c n := by
        show wtn c n + (if (!decide (((c n : Nat) : Int) = 0)) = true then 1 else 0) = _
        rw [if_neg (by simp [e]), Nat.add_zero]
      rw [e1, show kpc q c n = (q : Int) - 1 from if_pos e]
      show _ = kc (kwc ((q : Int) - 1) (wtn c n)) n (k + 1) + kwc ((q : Int) - 1) (wtn c n) n * kc (kwc ((q : Int) - 1) (wtn c n)) n k
      rw [show kwc ((q : Int) - 1) (wtn c n) n = (q : Int) - 1 from if_neg (by omega)]
    · have e1 : wtn c (n + 1) = wtn c n + 1 := by
        show wtn c n + (if (!decide (((c n : Nat) : Int) = 0)) = true then 1 else 0) = _
        rw [if_pos (by simp; omega)]
      have h := kc_more ((q : Int) - 1) (wtn c n) (n - wtn c n) (k + 1)
      rw [if_neg (by omega), Nat.add_sub_cancel, show wtn c n + 1 + (n - wtn c n) = n + 1 by omega, show wtn c n + (n - wtn c n) = n by omega] at h
      rw [e1, h, show kpc q c n = -1 from if_neg e]
      omega

theorem enw_piv {D : FD} (F : Fld D) {n k : Nat} {R : Nat → Nat → Nat} {p m : Nat → Nat} (h : RRE D n k R p) (hm : El D m) {i : Nat} (hi : i < k) : ∀ t, t ≤ k → enw D R m t (p i) = if i < t then m i else 0
  | 0, _ => rfl
  | t + 1, ht => by
    show D.ad (enw D R m t (p i)) (D.mul (m t) (R t (p i))) = _
    rw [enw_piv F h hm hi t (by omega)]
    by_cases e : t = i
    · rw [e, if_neg (by omega), if_pos (by omega), h.one i hi, mul1 F (hm i), zero_ad F (hm i)]
    · rw [h.zero t i (by omega) hi e, mul0 F]
      by_cases c : i < t
      · rw [if_pos c, if_pos (by omega), ad_zero F (hm i)]
      · rw [if_neg c, if_neg (by omega), ad_zero F (zero_lt' F)]
theorem enw_lc {D : FD} (R : Nat → Nat → Nat) (p v : Nat → Nat) : ∀ k, enw D R (fun i => if i < k then v (p i) else 0) k = lcR D R p v k := fun k => by
  have h : ∀ t, t ≤ k → enw D R (fun i => if i < k then v (p i) else 0) t = lcR D R p v t := fun t => by
    induction t with
    | zero => intro _; rfl
    | succ t ih =>
      intro ht
      show padd D (enw D R (fun i => if i < k then v (p i) else 0) t) (pscale D (if t < k then v (p t) else 0) (R t)) = padd D (lcR D R p v t) (pscale D (v (p t)) (R t))
      rw [ih (by omega), if_pos (show t < k by omega)]
  exact h k (Nat.le_refl _)
theorem enw_in {D : FD} (F : Fld D) {n k : Nat} {R : Nat → Nat → Nat} {p : Nat → Nat} (h : RRE D n k R p) (m : Nat → Nat) : Spn D (RowsOf k R) (enw D R m k) ∧ Bd n (enw D R m k) := by
  have hh : ∀ t, t ≤ k → Spn D (RowsOf k R) (enw D R m t) ∧ Bd n (enw D R m t) := fun t => by
    induction t with
    | zero => intro _; exact ⟨spn_nil D _, fun _ _ => rfl⟩
    | succ t ih =>
      intro ht
      obtain ⟨h1, h2⟩ := ih (by omega)
      refine ⟨spn_add F h1 (spn_scale F _ ⟨[(1, R t)], fun x hx => by simp at hx; rw [hx]; exact ⟨t, by omega, rfl⟩, by
        show R t = padd D (pscale D 1 (R t)) pnil
        rw [pscale_one F (h.el t (by omega)), padd_nil F (h.el t (by omega))]⟩), fun j hj => ?_⟩
      show D.ad (enw D R m t j) (D.mul (m t) (R t j)) = 0
      rw [h2 j hj, h.bd t (by omega) j hj, mul0 F, ad_zero F (zero_lt' F)]
  exact hh k (Nat.le_refl _)
/-- Is a word in the code? -/
def memB (D : FD) (n k : Nat) (R : Nat → Nat → Nat) (p u : Nat → Nat) : Bool := agB n u (lcR D R p u k)
theorem memB_iff {D : FD} (F : Fld D) {n k : Nat} {R : Nat → Nat → Nat} {p u : Nat → Nat} (h : RRE D n k R p) (hb : Bd n u) : memB D n k R p u = true ↔ Spn D (RowsOf k R) u := by
  unfold memB
  have hbd : Bd n (lcR D R p u k) := by rw [← enw_lc]; exact (enw_in F h _).2
  rw [agB_eq hb hbd]
  constructor
  · intro e
    rw [e, ← enw_lc]
    exact (enw_in F h _).1
  · exact rre_coord F h
/-- A sum over a code's words is one over all messages. -/
theorem span_sum {D : FD} (F : Fld D) {n k : Nat} {R : Nat → Nat → Nat} {p : Nat → Nat} (h : RRE D n k R p) (g : (Nat → Nat) → Int) : wsum D.q k (fun m => g (enw D R m k)) = wsum D.q n (fun u => bi (memB D n k R p u) * g u) := by
  have h1 : wsum D.q k (fun m => g (enw D R m k)) = wsum D.q k (fun m => wsum D.q n (fun u => bi (agB n u (enw D R m k)) * g u)) := wsum_congr F k (fun m _ _ => (wsum_at F n g (enw_el F k) (enw_in F h m).2).symm)
  rw [h1, wsum_swap]
  refine wsum_congr F n (fun u hu hb => ?_)
  obtain ⟨v, hv⟩ : ∃ v : Nat → Nat, v = fun i => if i < k then u (p i) else 0 := ⟨_, rfl⟩
  have he : El D v := fun j => by
    rw [hv]
    show (if j < k then u (p j) else 0) < D.q
    split
    · exact hu _
    · exact zero_lt' F
  have hbv : Bd k v := fun j hj => by rw [hv]; exact if_neg (by omega)
  rw [← wsum_at F k (fun _ => bi (memB D n k R p u) * g u) he hbv]
  refine wsum_congr F k (fun m hm hbm => ?_)
  rw [← Int.mul_assoc]
  congr 1
  have e2 : lcR D R p u k = enw D R v k := by rw [hv, enw_lc]
  unfold memB
  rw [e2]
  by_cases c : m = v
  · rw [c, (agB_eq hbv hbv).2 rfl, bi_t, Int.one_mul]
  · have c1 : agB k m v = false := by
      rw [Bool.eq_false_iff]
      exact fun x => c ((agB_eq hbm hbv).1 x)
    have c2 : agB n u (enw D R m k) = false := by
      rw [Bool.eq_false_iff]
      intro x
      have e3 := (agB_eq hb (enw_in F h m).2).1 x
      apply c
      funext i
      by_cases ci : i < k
      · rw [hv]
        show m i = if i < k then u (p i) else 0
        rw [if_pos ci, e3, enw_piv F h hm ci k (Nat.le_refl _), if_pos ci]
      · rw [hbm i (by omega), hbv i (by omega)]
    rw [c1, c2, bi_f, Int.zero_mul]
theorem dot_enw {D : FD} (F : Fld D) {R : Nat → Nat → Nat} {m u : Nat → Nat} {n K : Nat} (hR : ∀ i, i < K → El D (R i)) : ∀ k, k ≤ K → dot D (fun i => dot D (R i) u n) m k = dot D (enw D R m k) u n
  | 0, _ => (dot_nil F u n).symm
  | k + 1, hk => by
    show D.ad (dot D (fun i => dot D (R i) u n) m k) (D.mul (dot D (R k) u n) (m k)) = dot D (padd D (enw D R m k) (pscale D (m k) (R k))) u n
    rw [dot_enw F hR k (by omega), dot_add F (enw_el F k) (el_scale F _ _), dot_scale F, F.mul_comm (m k)]
/-- MacWilliams. -/
theorem mac_id {D : FD} (hD : D ∈ fieldsL) {n k k2 : Nat} {R R2 : Nat → Nat → Nat} {p p2 : Nat → Nat} (h : RRE D n k R p) (h2 : RRE D n k2 R2 p2) (hd : ∀ v, Spn D (RowsOf k2 R2) v ↔ El D v ∧ Bd n v ∧ ∀ i, i < k → dot D (R i) v n = 0) (j : Nat) :
    (D.q : Int) ^ k * wsum D.q k2 (fun m => bi (decide (wtn (enw D R2 m k2) n = j))) = wsum D.q k (fun m => kc (kwc ((D.q : Int) - 1) (wtn (enw D R m k) n)) n j) := by
  have F := fld hD
  have hq1 : ((D.q : Int) - 1) ≠ 0 := by have := F.q2; omega
  have hc0 : chi D.q 0 = (D.q : Int) - 1 := if_pos rfl
  refine Int.eq_of_mul_eq_mul_left hq1 ?_
  rw [span_sum F h2 (fun u => bi (decide (wtn u n = j))), ← wsum_mul, ← wsum_mul, ← wsum_mul]
  have h1 : wsum D.q n (fun u => ((D.q : Int) - 1) * ((D.q : Int) ^ k * (bi (memB D n k2 R2 p2 u) * bi (decide (wtn u n = j))))) = wsum D.q n (fun u => wsum D.q k (fun m => bi (decide (wtn u n = j)) * chi D.q (D.ad 0 (dot D (enw D R m k) u n)))) := by
    refine wsum_congr F n (fun u hu hb => ?_)
    have e1 : memB D n k2 R2 p2 u = agB k (fun i => dot D (R i) u n) pnil := by
      rw [Bool.eq_iff_iff, memB_iff F h2 hb, hd, agB_iff]
      exact ⟨fun x => x.2.2, fun x => ⟨hu, hb, x⟩⟩
    rw [wsum_mul, wsum_congr F k (g := fun m => chi D.q (D.ad 0 (dot D (fun i => dot D (R i) u n) m k))) (fun m _ _ => by rw [dot_enw F h.el k (Nat.le_refl _)]), msg_sum hD (fun i => dot_lt F _ _ _) k (zero_lt' F), e1, hc0]
    obtain ⟨A, hA⟩ : ∃ A, A = bi (agB k (fun i => dot D (R i) u n) pnil) := ⟨_, rfl⟩
    obtain ⟨Bx, hB⟩ : ∃ Bx, Bx = bi (decide (wtn u n = j)) := ⟨_, rfl⟩
    rw [← hA, ← hB, ← Int.mul_assoc, ← Int.mul_assoc, ← Int.mul_assoc, Int.mul_comm _ Bx, Int.mul_assoc Bx, Int.mul_comm ((D.q : Int) - 1), Int.mul_comm _ A]
  rw [h1, wsum_swap]
  refine wsum_congr F k (fun m _ _ => ?_)
  rw [wt_sum hD (enw_el F k) n j (zero_lt' F), hc0, kpc_kv]
end Go.Proofs.Ytbofcldmgjeklab

/- Plain mathematics: the weights of a code, gone through by its messages, and MacWilliams' identity for them. No Go text here. -/
namespace Go.Proofs.Ytbofcldmgjeklab
open Go.RowKit Go.Sort

theorem zsum_addn (g : Nat → Int) (n : Nat) : ∀ m, zsum g (n + m) = zsum g n + zsum (fun b => g (n + b)) m
  | 0 => by show zsum g n = zsum g n + 0; omega
  | m + 1 => by
    show zsum g (n + m) + g (n + m) = zsum g n + (zsum (fun b => g (n + b)) m + g (n + m))
    rw [zsum_addn g n m]; omega
theorem zsum_prod (g : Nat → Int) (q : Nat) : ∀ m, zsum g (m * q) = zsum (fun a => zsum (fun b => g (a * q + b)) q) m
  | 0 => by rw [Nat.zero_mul]; rfl
  | m + 1 => by
    rw [Nat.succ_mul, zsum_addn, zsum_prod g q m]; rfl
theorem dgs_pt {q k a b : Nat} (hq : 2 ≤ q) (hb : b < q) : dgs q (k + 1) (a * q + b) = pt (dgs q k a) k b := by
  funext j
  unfold pt dgs
  by_cases e : j = k
  · rw [if_pos e, if_pos (by omega), e, show k + 1 - 1 - k = 0 by omega, Nat.pow_zero, Nat.div_one, Nat.mul_comm, Nat.mul_add_mod, Nat.mod_eq_of_lt hb]
  · rw [if_neg e]
    by_cases c : j < k
    · rw [if_pos c, if_pos (by omega), show k + 1 - 1 - j = (k - 1 - j) + 1 by omega, Nat.pow_succ', ← Nat.div_div_eq_div_mul, Nat.mul_comm a q, Nat.mul_add_div (by omega), Nat.div_eq_of_lt hb, Nat.add_zero]
    · rw [if_neg c, if_neg (by omega)]
/-- A sum over all messages by their numbers. -/
theorem wsum_dgs {q : Nat} (hq : 2 ≤ q) : ∀ k (f : (Nat → Nat) → Int), zsum (fun r => f (dgs q k r)) (q ^ k) = wsum q k f
  | 0, f => by
    rw [Nat.pow_zero]
    show 0 + f (dgs q 0 0) = f pnil
    have e : dgs q 0 0 = pnil := by funext j; unfold dgs; rw [if_neg (by omega)]; rfl
    rw [e]; omega
  | k + 1, f => by
    rw [Nat.pow_succ, zsum_prod]
    have h1 : zsum (fun a => zsum (fun b => f (dgs q (k + 1) (a * q + b))) q) (q ^ k) = zsum (fun a => zsum (fun b => f (pt (dgs q k a) k b)) q) (q ^ k) := zsum_congr _ (fun a _ => zsum_congr _ (fun b hb => by rw [dgs_pt hq hb]))
    rw [h1, zsum_swap (fun a b => f (pt (dgs q k a) k b))]
    show _ = zsum (fun b => wsum q k (fun v => f (pt v k b))) q
    exact zsum_congr _ (fun b _ => wsum_dgs hq k (fun v => f (pt v k b)))
theorem wcn_zsum (D : FD) (R : Nat → Nat → Nat) (n K x : Nat) : ∀ N, ((wcn D R n K N x : Nat) : Int) = zsum (fun r => bi (decide (wtn (enw D R (dgs D.q K r) K) n = x))) N
  | 0 => rfl
  | N + 1 => by
    show ((wcn D R n K N x + if x = wgr D R n K N then 1 else 0 : Nat) : Int) = zsum _ N + bi (decide (wtn (enw D R (dgs D.q K N) K) n = x))
    rw [← wcn_zsum D R n K x N]
    have e : wgr D R n K N = wtn (enw D R (dgs D.q K N) K) n := rfl
    by_cases c : x = wgr D R n K N
    · rw [if_pos c, decide_eq_true (by rw [← e]; exact c.symm), bi_t]; omega
    · rw [if_neg c, decide_eq_false (by rw [← e]; exact fun h => c h.symm), bi_f]; omega
/-- How many words have a weight: a sum over all messages. -/
theorem wcn_wsum {D : FD} (F : Fld D) (R : Nat → Nat → Nat) (n K x : Nat) : ((wcn D R n K (D.q ^ K) x : Nat) : Int) = wsum D.q K (fun m => bi (decide (wtn (enw D R m K) n = x))) := by
  rw [wcn_zsum, wsum_dgs F.q2 K (fun m => bi (decide (wtn (enw D R m K) n = x)))]
theorem vsm_zsum (f K : Nat → Int) : ∀ r, vsm f K r = zsum (fun x => f x * K x) r
  | 0 => rfl
  | r + 1 => by
    show vsm f K r + f r * K r = zsum (fun x => f x * K x) r + f r * K r
    rw [vsm_zsum f K r]
/-- What a function of the weight sums up to. -/
theorem wcn_sum {D : FD} (F : Fld D) (R : Nat → Nat → Nat) (n K : Nat) (g : Nat → Int) : vsm (fun x => ((wcn D R n K (D.q ^ K) x : Nat) : Int)) g (n + 1) = wsum D.q K (fun m => g (wtn (enw D R m K) n)) := by
  rw [vsm_zsum]
  have h1 : zsum (fun x => ((wcn D R n K (D.q ^ K) x : Nat) : Int) * g x) (n + 1) = zsum (fun x => wsum D.q K (fun m => g x * bi (decide (wtn (enw D R m K) n = x)))) (n + 1) := zsum_congr _ (fun x _ => by rw [wcn_wsum F, wsum_mul, Int.mul_comm])
  rw [h1, ← wsum_zsum D.q (fun x m => g x * bi (decide (wtn (enw D R m K) n = x)))]
  refine wsum_congr F K (fun m _ _ => ?_)
  have hle := wtn_le (enw D R m K) n
  rw [← zsum_one g (n + 1) (show wtn (enw D R m K) n < n + 1 by omega)]
  refine zsum_congr _ (fun x _ => ?_)
  by_cases c : x = wtn (enw D R m K) n
  · rw [if_pos c, decide_eq_true c.symm, bi_t, Int.mul_one]
  · rw [if_neg c, decide_eq_false (fun h => c h.symm), bi_f, Int.mul_zero]
theorem wsum_one (q : Nat) : ∀ k, wsum q k (fun _ => 1) = ((q ^ k : Nat) : Int)
  | 0 => rfl
  | k + 1 => by
    show zsum (fun _ => wsum q k (fun _ => 1)) q = _
    rw [wsum_one q k, zsum_const, Nat.pow_succ, Nat.mul_comm]
    simp
/-- MacWilliams, for the weights as both codes tell them. -/
theorem mac_wcn {D : FD} (hD : D ∈ fieldsL) {n k k2 : Nat} {R R2 : Nat → Nat → Nat} {p p2 : Nat → Nat} (h : RRE D n k R p) (h2 : RRE D n k2 R2 p2) (hd : ∀ v, Spn D (RowsOf k2 R2) v ↔ El D v ∧ Bd n v ∧ ∀ i, i < k → dot D (R i) v n = 0) (j : Nat) :
    vsm (fun x => ((wcn D R n k (D.q ^ k) x : Nat) : Int)) (fun x => kv D.q n j x) (n + 1) = ((D.q ^ k : Nat) : Int) * ((wcn D R2 n k2 (D.q ^ k2) j : Nat) : Int) := by
  have F := fld hD
  rw [wcn_sum F R n k (fun x => kv D.q n j x), wcn_wsum F]
  have e := mac_id hD h h2 hd j
  rw [show ((D.q ^ k : Nat) : Int) = (D.q : Int) ^ k by simp, e]
  rfl
/-- As many words as there are. -/
theorem wcn_all {D : FD} (F : Fld D) (R : Nat → Nat → Nat) (n k : Nat) : tsm (fun x => ((wcn D R n k (D.q ^ k) x : Nat) : Int)) (n + 1) = ((D.q ^ k : Nat) : Int) := by
  unfold tsm
  rw [wcn_sum F R n k (fun _ => 1), wsum_one]
end Go.Proofs.Ytbofcldmgjeklab
