/- Texts of ours, one behind the other: S49 S50. -/
import Derived.Test.YtbofcldmgjeklabZI8
import Derived.Test.YtbofcldmgjeklabZK8
import Derived.Test.YtbofcldmgjeklabZH2
/- Plain mathematics: sums over a field's elements, and over all words. No Go text here. -/
namespace Go.Proofs.Ytbofcldmgjeklab
open Go.RowKit Go.Sort

/-- The sum of the first n numbers. -/
def zsum (f : Nat → Int) : Nat → Int
  | 0 => 0
  | n + 1 => zsum f n + f n
theorem zsum_congr {f g : Nat → Int} : ∀ n, (∀ a, a < n → f a = g a) → zsum f n = zsum g n
  | 0, _ => rfl
  | n + 1, h => by
    show zsum f n + f n = zsum g n + g n
    rw [zsum_congr n (fun a ha => h a (by omega)), h n (by omega)]
theorem zsum_nil : ∀ n, zsum (fun _ => 0) n = 0
  | 0 => rfl
  | n + 1 => by show zsum (fun _ => 0) n + 0 = 0; rw [zsum_nil n]; rfl
theorem zsum_zero {f : Nat → Int} (n : Nat) (h : ∀ a, a < n → f a = 0) : zsum f n = 0 := (zsum_congr n h).trans (zsum_nil n)
theorem zsum_add (f g : Nat → Int) : ∀ n, zsum (fun a => f a + g a) n = zsum f n + zsum g n
  | 0 => rfl
  | n + 1 => by
    show zsum (fun a => f a + g a) n + (f n + g n) = zsum f n + f n + (zsum g n + g n)
    rw [zsum_add f g n]; omega
theorem zsum_mul (s : Int) (f : Nat → Int) : ∀ n, zsum (fun a => s * f a) n = s * zsum f n
  | 0 => (Int.mul_zero s).symm
  | n + 1 => by
    show zsum (fun a => s * f a) n + s * f n = s * (zsum f n + f n)
    rw [zsum_mul s f n, Int.mul_add]
theorem zsum_const (c : Int) : ∀ n : Nat, zsum (fun _ => c) n = (n : Int) * c
  | 0 => (Int.zero_mul c).symm
  | n + 1 => by
    show zsum (fun _ => c) n + c = ((n + 1 : Nat) : Int) * c
    rw [zsum_const c n, Int.natCast_add, Int.add_mul]
    show _ = (n : Int) * c + 1 * c
    rw [Int.one_mul]
theorem zsum_swap (f : Nat → Nat → Int) (m : Nat) : ∀ n, zsum (fun a => zsum (fun b => f a b) m) n = zsum (fun b => zsum (fun a => f a b) n) m
  | 0 => (zsum_nil m).symm
  | n + 1 => by
    show zsum (fun a => zsum (fun b => f a b) m) n + zsum (fun b => f n b) m = zsum (fun b => zsum (fun a => f a b) n + f n b) m
    rw [zsum_swap f m n, zsum_add]
theorem zsum_one (f : Nat → Int) {b : Nat} : ∀ n, b < n → zsum (fun a => if a = b then f a else 0) n = f b
  | 0, h => absurd h (by omega)
  | n + 1, h => by
    show zsum (fun a => if a = b then f a else 0) n + (if n = b then f n else 0) = f b
    by_cases e : n = b
    · rw [zsum_zero n (fun a ha => if_neg (by omega)), if_pos e, e]; omega
    · rw [zsum_one f n (by omega), if_neg e]; omega
theorem zsum_le {f g : Nat → Int} : ∀ n, (∀ a, a < n → f a ≤ g a) → zsum f n ≤ zsum g n
  | 0, _ => Int.le_refl _
  | n + 1, h => by
    have h1 := zsum_le n (fun a ha => h a (by omega))
    have h2 := h n (by omega)
    show zsum f n + f n ≤ zsum g n + g n
    omega
/-- A sum in another order. -/
theorem zsum_turn (f : Nat → Int) (p s : Nat → Nat) (n : Nat) (hp : ∀ a, a < n → p a < n) (hs : ∀ b, b < n → s b < n) (h1 : ∀ a, a < n → s (p a) = a) (h2 : ∀ b, b < n → p (s b) = b) : zsum (fun a => f (p a)) n = zsum f n := by
  have e1 : zsum (fun a => f (p a)) n = zsum (fun a => zsum (fun b => if b = p a then f b else 0) n) n := zsum_congr n (fun a ha => (zsum_one f n (hp a ha)).symm)
  have e2 : ∀ b, b < n → zsum (fun a => if b = p a then f b else 0) n = f b := fun b hb => by
    have e3 : zsum (fun a => if b = p a then f b else 0) n = zsum (fun a => if a = s b then (fun _ => f b) a else 0) n := zsum_congr n (fun a ha => by
      by_cases e : b = p a
      · rw [if_pos e, if_pos (by rw [e, h1 a ha])]
      · rw [if_neg e, if_neg (fun x => e (by rw [x, h2 b hb]))])
    rw [e3]
    exact zsum_one (fun _ => f b) n (hs b hb)
  rw [e1, zsum_swap (fun a b => if b = p a then f b else 0)]
  exact zsum_congr n e2

/-- One sign of a word told otherwise. -/
def pt (v : Nat → Nat) (n a : Nat) : Nat → Nat := fun j => if j = n then a else v j
theorem pt_lo (v : Nat → Nat) {n a j : Nat} (h : j < n) : pt v n a j = v j := if_neg (by omega)
theorem pt_at (v : Nat → Nat) (n a : Nat) : pt v n a n = a := if_pos rfl
theorem pt_el {D : FD} {v : Nat → Nat} {n a : Nat} (hv : El D v) (ha : a < D.q) : El D (pt v n a) := fun j => by unfold pt; split; exact ha; exact hv j
theorem pt_bd {v : Nat → Nat} {n a : Nat} (hv : Bd n v) : Bd (n + 1) (pt v n a) := fun j hj => by unfold pt; rw [if_neg (by omega)]; exact hv j (by omega)
theorem pt_cut {v : Nat → Nat} {n : Nat} (hv : Bd (n + 1) v) : v = pt (fun j => if j < n then v j else 0) n (v n) := by
  funext j
  unfold pt
  by_cases e : j = n
  · rw [if_pos e, e]
  · rw [if_neg e]
    show v j = if j < n then v j else 0
    by_cases h : j < n
    · rw [if_pos h]
    · rw [if_neg h]; exact hv j (by omega)
/-- The sum over all words of n signs. -/
def wsum (q : Nat) : Nat → ((Nat → Nat) → Int) → Int
  | 0, f => f pnil
  | n + 1, f => zsum (fun a => wsum q n (fun v => f (pt v n a))) q
theorem wsum_congr {D : FD} (F : Fld D) : ∀ n {f g : (Nat → Nat) → Int}, (∀ v, El D v → Bd n v → f v = g v) → wsum D.q n f = wsum D.q n g
  | 0, _, _, h => h pnil (el_nil F) (fun _ _ => rfl)
  | n + 1, _, _, h => zsum_congr D.q (fun _ ha => wsum_congr F n (fun _ hv hb => h _ (pt_el hv ha) (pt_bd hb)))
theorem wsum_add (q : Nat) : ∀ n (f g : (Nat → Nat) → Int), wsum q n (fun v => f v + g v) = wsum q n f + wsum q n g
  | 0, _, _ => rfl
  | n + 1, f, g => by
    show zsum (fun a => wsum q n (fun v => f (pt v n a) + g (pt v n a))) q = _
    rw [zsum_congr q (fun a _ => wsum_add q n (fun v => f (pt v n a)) (fun v => g (pt v n a))), zsum_add]; rfl
theorem wsum_mul (q : Nat) (s : Int) : ∀ n (f : (Nat → Nat) → Int), wsum q n (fun v => s * f v) = s * wsum q n f
  | 0, _ => rfl
  | n + 1, f => by
    show zsum (fun a => wsum q n (fun v => s * f (pt v n a))) q = _
    rw [zsum_congr q (fun a _ => wsum_mul q s n (fun v => f (pt v n a))), zsum_mul]; rfl
theorem wsum_nil (q : Nat) : ∀ n, wsum q n (fun _ => 0) = 0
  | 0 => rfl
  | n + 1 => by
    show zsum (fun _ => wsum q n (fun _ => 0)) q = 0
    rw [zsum_congr q (fun _ _ => wsum_nil q n), zsum_nil]
theorem wsum_zsum (q : Nat) (f : Nat → (Nat → Nat) → Int) (n : Nat) : ∀ m, wsum q n (fun v => zsum (fun a => f a v) m) = zsum (fun a => wsum q n (f a)) m
  | 0 => wsum_nil q n
  | m + 1 => by
    show wsum q n (fun v => zsum (fun a => f a v) m + f m v) = zsum (fun a => wsum q n (f a)) m + wsum q n (f m)
    rw [wsum_add, wsum_zsum q f n m]
theorem wsum_swap (q : Nat) (n : Nat) : ∀ m (f : (Nat → Nat) → (Nat → Nat) → Int), wsum q n (fun u => wsum q m (fun v => f u v)) = wsum q m (fun v => wsum q n (fun u => f u v))
  | 0, _ => rfl
  | m + 1, f => by
    show wsum q n (fun u => zsum (fun a => wsum q m (fun v => f u (pt v m a))) q) = zsum (fun a => wsum q m (fun v => wsum q n (fun u => f u (pt v m a)))) q
    rw [wsum_zsum q (fun a u => wsum q m (fun v => f u (pt v m a)))]
    exact zsum_congr q (fun a _ => wsum_swap q n m (fun u v => f u (pt v m a)))
/-- Do two words agree at the first signs? -/
def agB (n : Nat) (u v : Nat → Nat) : Bool := decide (∀ j, j < n → u j = v j)
theorem agB_iff {n : Nat} {u v : Nat → Nat} : agB n u v = true ↔ ∀ j, j < n → u j = v j := decide_eq_true_iff
theorem agB_eq {n : Nat} {u v : Nat → Nat} (hu : Bd n u) (hv : Bd n v) : agB n u v = true ↔ u = v := by
  rw [agB_iff]
  constructor
  · intro h
    funext j
    by_cases e : j < n
    · exact h j e
    · rw [hu j (by omega), hv j (by omega)]
  · intro h j _
    rw [h]
def bi (b : Bool) : Int := if b = true then 1 else 0
theorem bi_t : bi true = 1 := rfl
theorem bi_f : bi false = 0 := rfl
theorem bi_nn (b : Bool) : 0 ≤ bi b := by cases b <;> decide
theorem wsum_at {D : FD} (F : Fld D) : ∀ n {v : Nat → Nat} (g : (Nat → Nat) → Int), El D v → Bd n v → wsum D.q n (fun u => bi (agB n u v) * g u) = g v
  | 0, v, g, _, hb => by
    have e : v = pnil := by funext j; exact hb j (by omega)
    show bi (agB 0 pnil v) * g pnil = g v
    rw [show agB 0 pnil v = true from agB_iff.2 (fun j hj => absurd hj (by omega)), e, bi_t, Int.one_mul]
  | n + 1, v, g, hv, hb => by
    obtain ⟨v', hv'⟩ : ∃ v' : Nat → Nat, v' = fun j => if j < n then v j else 0 := ⟨_, rfl⟩
    have hp : v = pt v' n (v n) := by rw [hv']; exact pt_cut hb
    have he : El D v' := fun j => by
      rw [hv']
      show (if j < n then v j else 0) < D.q
      split
      · exact hv j
      · exact zero_lt' F
    have hbd : Bd n v' := fun j hj => by rw [hv']; exact if_neg (by omega)
    show zsum (fun a => wsum D.q n (fun u => bi (agB (n + 1) (pt u n a) v) * g (pt u n a))) D.q = g v
    have h1 : ∀ a, a < D.q → wsum D.q n (fun u => bi (agB (n + 1) (pt u n a) v) * g (pt u n a)) = if a = v n then g (pt v' n a) else 0 := fun a _ => by
      by_cases e : a = v n
      · rw [if_pos e, ← wsum_at F n (fun u => g (pt u n a)) he hbd]
        refine wsum_congr F n (fun u _ _ => ?_)
        have e2 : agB (n + 1) (pt u n a) v = agB n u v' := by
          rw [Bool.eq_iff_iff, agB_iff, agB_iff]
          constructor
          · intro h j hj
            have := h j (by omega)
            rw [pt_lo u hj] at this
            rw [this, hv']
            exact (if_pos hj).symm
          · intro h j hj
            by_cases c : j = n
            · rw [c, pt_at, e]
            · rw [pt_lo u (by omega), h j (by omega), hv']
              exact if_pos (by omega)
        rw [e2]
      · rw [if_neg e, ← wsum_nil D.q n]
        refine wsum_congr F n (fun u _ _ => ?_)
        have e2 : agB (n + 1) (pt u n a) v = false := by
          rw [Bool.eq_false_iff]
          intro h
          have := agB_iff.1 h n (by omega)
          rw [pt_at] at this
          exact e this
        rw [e2, bi_f, Int.zero_mul]
    rw [zsum_congr D.q h1, zsum_one (fun a => g (pt v' n a)) D.q (hv n), ← hp]
end Go.Proofs.Ytbofcldmgjeklab

/- Plain mathematics: MacWilliams' identity, by sums over all words. No Go text here. -/
namespace Go.Proofs.Ytbofcldmgjeklab
open Go.RowKit Go.Sort

/-- What all characters but the first one sum up to. -/
def chi (q a : Nat) : Int := if a = 0 then (q : Int) - 1 else -1
theorem chi_sum {q : Nat} (hq : 1 ≤ q) : zsum (chi q) q = 0 := by
  have e : zsum (chi q) q = zsum (fun a => (if a = 0 then (fun _ => (q : Int)) a else 0) + (fun _ => (-1 : Int)) a) q := zsum_congr q (fun a _ => by
    unfold chi
    by_cases e : a = 0
    · rw [if_pos e, if_pos e]
      show (q : Int) - 1 = (q : Int) + -1
      omega
    · rw [if_neg e, if_neg e]
      show (-1 : Int) = 0 + -1
      omega)
  rw [e, zsum_add, zsum_one (fun _ => (q : Int)) q hq, zsum_const]
  omega
theorem chi_lin {D : FD} (hD : D ∈ fieldsL) {b s : Nat} (hb : b < D.q) (hs : s < D.q) (h0 : s ≠ 0) : zsum (fun a => chi D.q (D.ad b (D.mul s a))) D.q = 0 := by
  have F := fld hD
  rw [zsum_turn (chi D.q) (fun a => D.ad b (D.mul s a)) (fun c => D.mul (D.iv s) (D.sb c b)) D.q (fun a _ => ad_lt F hb (F.mul_lt _ _)) (fun c _ => F.mul_lt _ _) (fun a ha => ?_) (fun c hc => ?_)]
  · exact chi_sum (by have := F.q2; omega)
  · show D.mul (D.iv s) (D.sb (D.ad b (D.mul s a)) b) = a
    rw [ad_comm F b, sb_ad F (F.mul_lt _ _) hb, ← F.mul_assoc, F.mul_comm (D.iv s) s, iv_is hD hs h0, omul F ha]
  · show D.ad b (D.mul s (D.mul (D.iv s) (D.sb c b))) = c
    rw [← F.mul_assoc, iv_is hD hs h0, omul F (sb_lt F hc hb), ad_sb F hc hb]
theorem dot_pt {D : FD} (s v : Nat → Nat) (k a : Nat) : dot D s (pt v k a) (k + 1) = D.ad (dot D s v k) (D.mul (s k) a) := by
  show D.ad (dot D s (pt v k a) k) (D.mul (s k) (pt v k a k)) = _
  rw [pt_at, dot_congr (a' := s) (b' := v) k (fun j hj => ⟨rfl, pt_lo v hj⟩)]
theorem ad_turn {D : FD} (F : Fld D) {b x y : Nat} (hb : b < D.q) (hx : x < D.q) (hy : y < D.q) : D.ad b (D.ad x y) = D.ad (D.ad b y) x := by
  rw [ad_comm F x y, ad_assoc F hb hy hx]
/-- The sum over all messages. -/
theorem msg_sum {D : FD} (hD : D ∈ fieldsL) {s : Nat → Nat} (hs : El D s) : ∀ k {b : Nat}, b < D.q → wsum D.q k (fun m => chi D.q (D.ad b (dot D s m k))) = bi (agB k s pnil) * ((D.q : Int) ^ k * chi D.q b)
  | 0, b, hb => by
    show chi D.q (D.ad b 0) = _
    rw [ad_zero (fld hD) hb, show agB 0 s pnil = true from agB_iff.2 (fun j hj => absurd hj (by omega)), bi_t, Int.pow_zero]
    omega
  | k + 1, b, hb => by
    have F := fld hD
    have h1 : ∀ a, a < D.q → wsum D.q k (fun v => chi D.q (D.ad b (dot D s (pt v k a) (k + 1)))) = bi (agB k s pnil) * ((D.q : Int) ^ k) * chi D.q (D.ad b (D.mul (s k) a)) := fun a _ => by
      rw [Int.mul_assoc, ← msg_sum hD hs k (ad_lt F hb (F.mul_lt (s k) a))]
      refine wsum_congr F k (fun v _ _ => ?_)
      rw [dot_pt, ad_turn F hb (dot_lt F _ _ _) (F.mul_lt _ _)]
    show zsum (fun a => wsum D.q k (fun v => chi D.q (D.ad b (dot D s (pt v k a) (k + 1))))) D.q = _
    rw [zsum_congr D.q h1, zsum_mul]
    by_cases e : s k = 0
    · have e1 : agB (k + 1) s pnil = agB k s pnil := by
        rw [Bool.eq_iff_iff, agB_iff, agB_iff]
        constructor
        · exact fun h j hj => h j (by omega)
        · intro h j hj
          by_cases c : j = k
          · rw [c, e]; rfl
          · exact h j (by omega)
      rw [e1, e, zsum_congr D.q (g := fun _ => chi D.q b) (fun a _ => by rw [zmul F, ad_zero F hb]), zsum_const, Int.pow_succ, Int.mul_assoc, Int.mul_assoc]
    · have e1 : agB (k + 1) s pnil = false := by
        rw [Bool.eq_false_iff]
        intro h
        exact e (agB_iff.1 h k (by omega))
      rw [chi_lin hD hb (hs k) e, e1, bi_f, Int.mul_zero, Int.zero_mul]

/-- A word's weight. -/
def wtn (u : Nat → Nat) (n : Nat) : Nat := ct (fun i => !decide (((u i : Nat) : Int) = 0)) n
theorem wtn_pt (v : Nat → Nat) (n a : Nat) : wtn (pt v n a) (n + 1) = wtn v n + if a = 0 then 0 else 1 := by
  have h : ∀ m, m ≤ n → wtn (pt v n a) m = wtn v m := fun m => by
    induction m with
    | zero => intro _; rfl
    | succ m ih =>
      intro hm
      have := ih (by omega)
      show wtn (pt v n a) m + (if (!decide (((pt v n a m : Nat) : Int) = 0)) = true then 1 else 0) = wtn v m + (if (!decide (((v m : Nat) : Int) = 0)) = true then 1 else 0)
      rw [this, pt_lo v (by omega)]
  show wtn (pt v n a) n + (if (!decide (((pt v n a n : Nat) : Int) = 0)) = true then 1 else 0) = _
  rw [h n (Nat.le_refl _), pt_at]
  by_cases e : a = 0
  · rw [if_pos e, if_neg (by simp [e])]
  · rw [if_neg e, if_pos (by simp; omega)]
theorem wtn_le (u : Nat → Nat) : ∀ n, wtn u n ≤ n
  | 0 => Nat.le_refl _
  | n + 1 => by
    have := wtn_le u n
    show wtn u n + (if (!decide (((u n : Nat) : Int) = 0)) = true then 1 else 0) ≤ n + 1
    split <;> omega
/-- What stands for a word's sign in the product. -/
def kpc (q : Nat) (c : Nat → Nat) : Nat → Int := fun i => if c i = 0 then (q : Int) - 1 else -1
theorem wt_sum {D : FD} (hD : D ∈ fieldsL) {c : Nat → Nat} (hc : El D c) : ∀ n (j : Nat) {b : Nat}, b < D.q → wsum D.q n (fun u => bi (decide (wtn u n = j)) * chi D.q (D.ad b (dot D c u n))) = chi D.q b * kc (kpc D.q c) n j
  | 0, j, b, hb => by
    show bi (decide (0 = j)) * chi D.q (D.ad b 0) = _
    rw [ad_zero (fld hD) hb]
    cases j with
    | zero => show 1 * _ = _ * 1; omega
    | succ j => show 0 * _ = _ * 0; omega
  | n + 1, j, b, hb => by
    have F := fld hD
    obtain ⟨K', hK'⟩ : ∃ K' : Int, K' = if j = 0 then 0 else kc (kpc D.q c) n (j - 1) := ⟨_, rfl⟩
    have hk : kc (kpc D.q c) (n + 1) j = kc (kpc D.q c) n j + kpc D.q c n * K' := by
      cases j with
      | zero => rw [hK', if_pos rfl, Int.mul_zero, Int.add_zero]; rfl
      | succ j => rw [hK', if_neg (by omega)]; rfl
    have h1 : ∀ a, a < D.q → wsum D.q n (fun v => bi (decide (wtn (pt v n a) (n + 1) = j)) * chi D.q (D.ad b (dot D c (pt v n a) (n + 1)))) = (if a = 0 then (fun _ => chi D.q b * kc (kpc D.q c) n j - K' * chi D.q b) a else 0) + K' * chi D.q (D.ad b (D.mul (c n) a)) := fun a _ => by
      have hb' : D.ad b (D.mul (c n) a) < D.q := ad_lt F hb (F.mul_lt _ _)
      by_cases e : a = 0
      · rw [if_pos e]
        have h2 : wsum D.q n (fun v => bi (decide (wtn (pt v n a) (n + 1) = j)) * chi D.q (D.ad b (dot D c (pt v n a) (n + 1)))) = chi D.q b * kc (kpc D.q c) n j := by
          rw [← wt_sum hD hc n j hb]
          refine wsum_congr F n (fun v _ _ => ?_)
          rw [wtn_pt, if_pos e, Nat.add_zero, dot_pt, e, mul0 F, ad_zero F (dot_lt F _ _ _)]
        rw [h2, e, mul0 F, ad_zero F hb]
        show _ = chi D.q b * kc (kpc D.q c) n j - K' * chi D.q b + K' * chi D.q b
        omega
      · rw [if_neg e, Int.zero_add]
        by_cases ej : j = 0
        · rw [hK', if_pos ej, Int.zero_mul, ← wsum_nil D.q n]
          refine wsum_congr F n (fun v _ _ => ?_)
          rw [wtn_pt, if_neg e, decide_eq_false (by omega), bi_f, Int.zero_mul]
        · rw [hK', if_neg ej, Int.mul_comm, ← wt_sum hD hc n (j - 1) hb']
          refine wsum_congr F n (fun v _ _ => ?_)
          rw [wtn_pt, if_neg e, dot_pt, ad_turn F hb (dot_lt F _ _ _) (F.mul_lt _ _)]
          congr 2
          rw [decide_eq_decide]
          omega
    show zsum (fun a => wsum D.q n (fun v => bi (decide (wtn (pt v n a) (n + 1) = j)) * chi D.q (D.ad b (dot D c (pt v n a) (n + 1))))) D.q = _
    rw [zsum_congr D.q h1, zsum_add, zsum_one (fun _ => chi D.q b * kc (kpc D.q c) n j - K' * chi D.q b) D.q (zero_lt' F), zsum_mul, hk, Int.mul_add]
    by_cases e : c n = 0
    · rw [e, zsum_congr D.q (g := fun _ => chi D.q b) (fun a _ => by rw [zmul F, ad_zero F hb]), zsum_const, show kpc D.q c n = (D.q : Int) - 1 from if_pos e]
      have e1 : K' * ((D.q : Int) * chi D.q b) = chi D.q b * ((D.q : Int) * K') := by rw [Int.mul_comm K', Int.mul_comm (D.q : Int) (chi D.q b), Int.mul_assoc]
      have e2 : chi D.q b * (((D.q : Int) - 1) * K') = chi D.q b * ((D.q : Int) * K') - K' * chi D.q b := by rw [Int.sub_mul, Int.one_mul, Int.mul_sub, Int.mul_comm K']
      rw [e1, e2]
      omega
    · rw [chi_lin hD hb (hc n) e, show kpc D.q c n = -1 from if_neg e]
      have e2 : chi D.q b * (-1 * K') = - (K' * chi D.q b) := by rw [Int.neg_mul, Int.one_mul, Int.mul_neg, Int.mul_comm K']
      rw [e2]
      omega
theorem kc_same {c d : Nat → Int} : ∀ n k, (∀ i, i < n → c i = d i) → kc c n k = kc d n k
  | 0, 0, _ => rfl
  | 0, _ + 1, _ => rfl
  | n + 1, 0, h => by show kc c n 0 = kc d n 0; exact kc_same n 0 (fun i hi => h i (by omega))
  | n + 1, k + 1, h => by
    show kc c n (k + 1) + c n * kc c n k = kc d n (k + 1) + d n * kc d n k
    rw [kc_same n (k + 1) (fun i hi => h i (by omega)), kc_same n k (fun i hi => h i (by omega)), h n (by omega)]
/-- One factor 1 - z more. -/
theorem kc_more (b : Int) (x : Nat) : ∀ m k, kc (kwc b (x + 1)) (x + 1 + m) k = kc (kwc b x) (x + m) k - if k = 0 then 0 else kc (kwc b x) (x + m) (k - 1)
  | 0, 0 => by rw [kc_zero, kc_zero]; rfl
  | 0, k + 1 => by
    have e : ∀ t, kc (kwc b (x + 1)) x t = kc (kwc b x) x t := fun t => kc_same x t (fun i hi => by unfold kwc; rw [if_pos (by omega), if_pos hi])
    show kc (kwc b (x + 1)) x (k + 1) + kwc b (x + 1) x * kc (kwc b (x + 1)) x k = kc (kwc b x) x (k + 1) - (if k + 1 = 0 then 0 else kc (kwc b x) x (k + 1 - 1))
    rw [if_neg (by omega), e, e, show kwc b (x + 1) x = -1 from if_pos (by omega), Nat.add_sub_cancel]
    omega
  | m + 1, 0 => by rw [kc_zero, kc_zero]; rfl
  | m + 1, k + 1 => by
    have h1 := kc_more b x m (k + 1)
    have h2 := kc_more b x m k
    rw [if_neg (by omega), Nat.add_sub_cancel] at h1 ⊢
    show kc (kwc b (x + 1)) (x + 1 + m) (k + 1) + kwc b (x + 1) (x + 1 + m) * kc (kwc b (x + 1)) (x + 1 + m) k = kc (kwc b x) (x + m) (k + 1) + kwc b x (x + m) * kc (kwc b x) (x + m) k - kc (kwc b x) (x + m + 1) k
    rw [h1, h2, show kwc b (x + 1) (x + 1 + m) = b from if_neg (by omega), show kwc b x (x + m) = b from if_neg (by omega), Int.mul_sub]
    cases k with
    | zero =>
      rw [if_pos rfl, kc_zero, kc_zero]
      omega
    | succ k =>
      rw [if_neg (by omega), Nat.add_sub_cancel]
      show _ = _ - (kc (kwc b x) (x + m) (k + 1) + kwc b x (x + m) * kc (kwc b x) (x + m) k)
      rw [show kwc b x (x + m) = b from if_neg (by omega)]
      omega
/-- The product hangs on the weight alone. -/
theorem kpc_kv (q : Nat) (c : Nat → Nat) : ∀ n k, kc (kpc q c) n k = kc (kwc ((q : Int) - 1) (wtn c n)) n k
  | 0, 0 => rfl
  | 0, _ + 1 => rfl
  | n + 1, 0 => by rw [kc_zero, kc_zero]
  | n + 1, k + 1 => by
    have hle := wtn_le c n
    show kc (kpc q c) n (k + 1) + kpc q c n * kc (kpc q c) n k = _
    rw [kpc_kv q c n (k + 1), kpc_kv q c n k]
    by_cases e : c n = 0
    · have e1 : wtn c (n + 1) = wtn c n := by
        show wtn c n + (if (!decide (((c n : Nat) : Int) = 0)) = true then 1 else 0) = _
        rw [if_neg (by simp [e]), Nat.add_zero]
      rw [e1, show kpc q c n = (q : Int) - 1 from if_pos e]
      show _ = kc (kwc ((q : Int) - 1) (wtn c n)) n (k + 1) + kwc ((q : Int) - 1) (wtn c n) n * kc (kwc ((q : Int) - 1) (wtn c n)) n k
      rw [show kwc ((q : Int) - 1) (wtn c n) n = (q : Int) - 1 from if_neg (by omega)]
    · have e1 : wtn c (n + 1) = wtn c n + 1 := by
        show wtn c n + (if (!decide (((c n : Nat) : Int) = 0)) = true then 1 else 0) = _
        rw [if_pos (by simp; omega)]
      have h := kc_more ((q : Int) - 1) (wtn c n) (n - wtn c n) (k + 1)
      rw [if_neg (by omega), Nat.add_sub_cancel, show wtn c n + 1 + (n - wtn c n) = n + 1 by omega, show wtn c n + (n - wtn c n) = n by omega] at h
      rw [e1, h, show kpc q c n = -1 from if_neg e]
      omega

theorem enw_piv {D : FD} (F : Fld D) {n k : Nat} {R : Nat → Nat → Nat} {p m : Nat → Nat} (h : RRE D n k R p) (hm : El D m) {i : Nat} (hi : i < k) : ∀ t, t ≤ k → enw D R m t (p i) = if i < t then m i else 0
  | 0, _ => rfl
  | t + 1, ht => by
    show D.ad (enw D R m t (p i)) (D.mul (m t) (R t (p i))) = _
    rw [enw_piv F h hm hi t (by omega)]
    by_cases e : t = i
    · rw [e, if_neg (by omega), if_pos (by omega), h.one i hi, mul1 F (hm i), zero_ad F (hm i)]
    · rw [h.zero t i (by omega) hi e, mul0 F]
      by_cases c : i < t
      · rw [if_pos c, if_pos (by omega), ad_zero F (hm i)]
      · rw [if_neg c, if_neg (by omega), ad_zero F (zero_lt' F)]
theorem enw_lc {D : FD} (R : Nat → Nat → Nat) (p v : Nat → Nat) : ∀ k, enw D R (fun i => if i < k then v (p i) else 0) k = lcR D R p v k := fun k => by
  have h : ∀ t, t ≤ k → enw D R (fun i => if i < k then v (p i) else 0) t = lcR D R p v t := fun t => by
    induction t with
    | zero => intro _; rfl
    | succ t ih =>
      intro ht
      show padd D (enw D R (fun i => if i < k then v (p i) else 0) t) (pscale D (if t < k then v (p t) else 0) (R t)) = padd D (lcR D R p v t) (pscale D (v (p t)) (R t))
      rw [ih (by omega), if_pos (show t < k by omega)]
  exact h k (Nat.le_refl _)
theorem enw_in {D : FD} (F : Fld D) {n k : Nat} {R : Nat → Nat → Nat} {p : Nat → Nat} (h : RRE D n k R p) (m : Nat → Nat) : Spn D (RowsOf k R) (enw D R m k) ∧ Bd n (enw D R m k) := by
  have hh : ∀ t, t ≤ k → Spn D (RowsOf k R) (enw D R m t) ∧ Bd n (enw D R m t) := fun t => by
    induction t with
    | zero => intro _; exact ⟨spn_nil D _, fun _ _ => rfl⟩
    | succ t ih =>
      intro ht
      obtain ⟨h1, h2⟩ := ih (by omega)
      refine ⟨spn_add F h1 (spn_scale F _ ⟨[(1, R t)], fun x hx => by simp at hx; rw [hx]; exact ⟨t, by omega, rfl⟩, by
        show R t = padd D (pscale D 1 (R t)) pnil
        rw [pscale_one F (h.el t (by omega)), padd_nil F (h.el t (by omega))]⟩), fun j hj => ?_⟩
      show D.ad (enw D R m t j) (D.mul (m t) (R t j)) = 0
      rw [h2 j hj, h.bd t (by omega) j hj, mul0 F, ad_zero F (zero_lt' F)]
  exact hh k (Nat.le_refl _)
theorem dot_enw {D : FD} (F : Fld D) {R : Nat → Nat → Nat} {m u : Nat → Nat} {n K : Nat} (hR : ∀ i, i < K → El D (R i)) : ∀ k, k ≤ K → dot D (fun i => dot D (R i) u n) m k = dot D (enw D R m k) u n
  | 0, _ => (dot_nil F u n).symm
  | k + 1, hk => by
    show D.ad (dot D (fun i => dot D (R i) u n) m k) (D.mul (dot D (R k) u n) (m k)) = dot D (padd D (enw D R m k) (pscale D (m k) (R k))) u n
    rw [dot_enw F hR k (by omega), dot_add F (enw_el F k) (el_scale F _ _), dot_scale F, F.mul_comm (m k)]
end Go.Proofs.Ytbofcldmgjeklab
