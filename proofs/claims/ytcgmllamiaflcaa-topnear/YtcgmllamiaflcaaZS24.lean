/- Plain mathematics of Sudan's sum: a message that agrees at many places makes it nought. No Go text here. -/
import Derived.Test.YtcgmllamiaflcaaZS11
import Derived.Test.YtcgmllamiaflcaaZI4
import Derived.Test.YtcgmllamiaflcaaZQ6
import Derived.Test.YtcgmllamiaflcaaZU23
namespace Go.Proofs.Ytcgmllamiaflcaa
open Go.RowKit Go.Sort

theorem pw_xp {D : FD} (hD : D ∈ fieldsL) {a : Nat} (h0 : a ≠ 0) : ∀ k, D.pw a k = D.xp a k
  | 0 => pw_zero hD a
  | k + 1 => by
    show _ = D.mul (D.xp a k) a
    rw [← pw_xp hD h0 k, pw_succ hD a k h0]
theorem pn_xp {D : FD} (hD : D ∈ fieldsL) {a : Nat} (ha : a < D.q) (k : Nat) : D.pn a k = D.xp a k := by
  have hh : D.has (a : Nat) = true := decide_eq_true ⟨by omega, by omega⟩
  unfold FD.pn FD.powZ
  rw [if_neg (by rw [hh]; decide)]
  cases k with
  | zero => rfl
  | succ k =>
    rw [if_neg (by omega)]
    by_cases h0 : a = 0
    · subst h0
      rw [if_pos (by rfl), if_neg (by omega)]
      show 0 = D.mul (D.xp 0 k) 0
      rw [mul0 (fld hD)]
    · rw [if_neg (by omega), ← pw_xp hD h0]
      rw [Int.toNat_natCast]
      have e : (((k + 1 : Nat) : Int) % ((D.q - 1 : Nat) : Int)).toNat = (k + 1) % (D.q - 1) := by
        have e0 : ((k + 1 : Nat) : Int) % ((D.q - 1 : Nat) : Int) = (((k + 1) % (D.q - 1) : Nat) : Int) := rfl
        rw [e0, Int.toNat_natCast]
      rw [e, Int.toNat_natCast]
      unfold FD.pw
      rw [Nat.mul_mod_mod]

theorem ev_congr {D : FD} {c d : Nat → Nat} (x : Nat) : ∀ n, (∀ i, i < n → c i = d i) → D.ev c x n = D.ev d x n
  | 0, _ => rfl
  | n + 1, h => by
    show D.ad (D.ev c x n) (D.mul (c n) (D.xp x n)) = D.ad (D.ev d x n) (D.mul (d n) (D.xp x n))
    rw [ev_congr x n (fun i hi => h i (by omega)), h n (by omega)]
/-- A sum in the field. -/
def fsm (D : FD) (h : Nat → Nat) : Nat → Nat
  | 0 => 0
  | m + 1 => D.ad (fsm D h m) (h m)
theorem fsm_lt {D : FD} (F : Fld D) {h : Nat → Nat} (hh : ∀ j, h j < D.q) : ∀ m, fsm D h m < D.q
  | 0 => zero_lt' F
  | m + 1 => ad_lt F (fsm_lt F hh m) (hh m)
theorem fsm_congr {D : FD} {h g : Nat → Nat} : ∀ m, (∀ j, j < m → h j = g j) → fsm D h m = fsm D g m
  | 0, _ => rfl
  | m + 1, e => by
    show D.ad (fsm D h m) (h m) = D.ad (fsm D g m) (g m)
    rw [fsm_congr m (fun j hj => e j (by omega)), e m (by omega)]
theorem fsm_zero {D : FD} (F : Fld D) : ∀ m, fsm D (fun _ => 0) m = 0
  | 0 => rfl
  | m + 1 => by show D.ad (fsm D (fun _ => 0) m) 0 = 0; rw [fsm_zero F m, ad_zero F (zero_lt' F)]
theorem fsm_put {D : FD} (F : Fld D) {h g : Nat → Nat} (hh : ∀ j, h j < D.q) {j0 v : Nat} (hv : v < D.q) (e0 : g j0 = D.ad (h j0) v) : ∀ m, (∀ j, j < m → j ≠ j0 → g j = h j) → (j0 < m → fsm D g m = D.ad (fsm D h m) v) ∧ (¬ j0 < m → fsm D g m = fsm D h m)
  | 0, _ => ⟨fun h => absurd h (by omega), fun _ => rfl⟩
  | m + 1, e => by
    have ih := fsm_put F hh hv e0 m (fun j hj hne => e j (by omega) hne)
    refine ⟨fun hl => ?_, fun hl => ?_⟩
    · show D.ad (fsm D g m) (g m) = D.ad (D.ad (fsm D h m) (h m)) v
      by_cases hm : j0 = m
      · subst hm
        rw [ih.2 (by omega), e0, ad_assoc F (fsm_lt F hh _) (hh _) hv]
      · rw [ih.1 (by omega), e m (by omega) (fun x => hm x.symm), ad_assoc F (fsm_lt F hh _) hv (hh _), ad_comm F v, ad_assoc F (fsm_lt F hh _) (hh _) hv]
    · show D.ad (fsm D g m) (g m) = D.ad (fsm D h m) (h m)
      rw [ih.2 (by omega), e m (by omega) (by omega)]
theorem fsm_first {D : FD} (F : Fld D) {h : Nat → Nat} (hh : ∀ j, h j < D.q) : ∀ m, fsm D h (m + 1) = D.ad (fsm D (fun j => h (j + 1)) m) (h 0)
  | 0 => by
    show D.ad 0 (h 0) = D.ad 0 (h 0)
    rfl
  | m + 1 => by
    show D.ad (fsm D h (m + 1)) (h (m + 1)) = D.ad (D.ad (fsm D (fun j => h (j + 1)) m) (h (m + 1))) (h 0)
    have h2 := fsm_lt F (fun j => hh (j + 1)) m
    rw [fsm_first F hh m, ad_assoc F h2 (hh 0) (hh _), ad_comm F (h 0), ad_assoc F h2 (hh _) (hh 0)]
theorem fsm_mul {D : FD} (F : Fld D) {h : Nat → Nat} (hh : ∀ j, h j < D.q) (y : Nat) : ∀ m, D.mul (fsm D h m) y = fsm D (fun j => D.mul (h j) y) m
  | 0 => zmul F y
  | m + 1 => by
    show D.mul (D.ad (fsm D h m) (h m)) y = D.ad (fsm D (fun j => D.mul (h j) y) m) (D.mul (h m) y)
    rw [ad_mul F (fsm_lt F hh m) (hh m), fsm_mul F hh y m]
/-- Horner's way. -/
def hrn (D : FD) (A : Nat → Nat) (y m : Nat) : Nat → Nat
  | 0 => 0
  | r + 1 => D.ad (D.mul (hrn D A y m r) y) (A (m - 1 - r))
theorem hrn_is {D : FD} (F : Fld D) {A : Nat → Nat} (hA : ∀ j, A j < D.q) (y m : Nat) : ∀ r, r ≤ m → hrn D A y m r = fsm D (fun j => D.mul (A (m - r + j)) (D.xp y j)) r
  | 0, _ => rfl
  | r + 1, h => by
    show D.ad (D.mul (hrn D A y m r) y) (A (m - 1 - r)) = _
    rw [fsm_first F (fun j => F.mul_lt _ _), hrn_is F hA y m r (by omega), fsm_mul F (fun j => F.mul_lt _ _)]
    have e : fsm D (fun j => D.mul (A (m - (r + 1) + (j + 1))) (D.xp y (j + 1))) r = fsm D (fun j => D.mul (D.mul (A (m - r + j)) (D.xp y j)) y) r := by
      refine fsm_congr r fun j _ => ?_
      show D.mul (A (m - (r + 1) + (j + 1))) (D.mul (D.xp y j) y) = _
      rw [← F.mul_assoc, show m - (r + 1) + (j + 1) = m - r + j by omega]
    rw [e]
    congr 1
    show A (m - 1 - r) = D.mul (A (m - (r + 1) + 0)) 1
    rw [mul1 F (hA _), show m - (r + 1) + 0 = m - 1 - r by omega]

/-- The numbers of a list that was laid. -/
def gzf (p s : Nat → Nat) (a j : Nat) : Nat → Nat := fun i => ((gz p s a j).getD i 0).toNat
theorem gzf_at (p s : Nat → Nat) (a i : Nat) : gzf p s (a + 1) (p a) i = if i < (gz p s a (p a)).length then gzf p s a (p a) i else if i = (gz p s a (p a)).length then s a else 0 := by
  have e : gz p s (a + 1) (p a) = gz p s a (p a) ++ [((s a : Nat) : Int)] := by
    show (if p a = p a then _ else _) = _
    rw [if_pos rfl]
  unfold gzf
  rw [e, List.getD_eq_getElem?_getD]
  by_cases h : i < (gz p s a (p a)).length
  · rw [if_pos h, List.getElem?_append_left h, List.getD_eq_getElem?_getD]
  · rw [if_neg h, List.getElem?_append_right (by omega)]
    by_cases h2 : i = (gz p s a (p a)).length
    · rw [if_pos h2, h2, Nat.sub_self]
      simp
    · rw [if_neg h2]
      obtain ⟨d, hd⟩ : ∃ d, i - (gz p s a (p a)).length = d + 1 := ⟨i - (gz p s a (p a)).length - 1, by omega⟩
      rw [hd]
      simp
theorem gzl_at (p s : Nat → Nat) (a : Nat) : (gz p s (a + 1) (p a)).length = (gz p s a (p a)).length + 1 := by
  show (if p a = p a then _ else _ : List Int).length = _
  rw [if_pos rfl, List.length_append]; rfl
theorem gz_off {p s : Nat → Nat} {a j : Nat} (h : j ≠ p a) : gz p s (a + 1) j = gz p s a j := by
  show (if j = p a then _ else _) = _
  rw [if_neg h]
/-- The sum, product by product, is the sum, list by list. -/
theorem lists_sum {D : FD} (F : Fld D) {p px s : Nat → Nat} (hs : El D s) (x y m : Nat) : ∀ a, (∀ b, b < a → p b < m ∧ px b = (gz p s b (p b)).length) →
    dot D (fun b => D.mul (D.xp x (px b)) (D.xp y (p b))) s a = fsm D (fun j => D.mul (D.ev (gzf p s a j) x (gz p s a j).length) (D.xp y j)) m
  | 0, _ => by
    show 0 = fsm D (fun j => D.mul (D.ev (gzf p s 0 j) x 0) (D.xp y j)) m
    exact ((fsm_congr (g := fun _ => 0) m fun j _ => zmul F _).trans (fsm_zero F m)).symm
  | a + 1, h => by
    have ih := lists_sum F hs x y m a (fun b hb => h b (by omega))
    have ha := h a (by omega)
    show D.ad (dot D _ s a) (D.mul (D.mul (D.xp x (px a)) (D.xp y (p a))) (s a)) = _
    rw [ih]
    have hev : D.ev (gzf p s (a + 1) (p a)) x (gz p s (a + 1) (p a)).length = D.ad (D.ev (gzf p s a (p a)) x (gz p s a (p a)).length) (D.mul (s a) (D.xp x (px a))) := by
      rw [gzl_at, ha.2]
      show D.ad (D.ev (gzf p s (a + 1) (p a)) x (gz p s a (p a)).length) (D.mul (gzf p s (a + 1) (p a) (gz p s a (p a)).length) (D.xp x (gz p s a (p a)).length)) = _
      rw [gzf_at p s a (gz p s a (p a)).length, if_neg (by omega), if_pos rfl]
      congr 1
      exact ev_congr x _ fun i hi => by rw [gzf_at, if_pos hi]
    have hput := fsm_put F (h := fun j => D.mul (D.ev (gzf p s a j) x (gz p s a j).length) (D.xp y j)) (g := fun j => D.mul (D.ev (gzf p s (a + 1) j) x (gz p s (a + 1) j).length) (D.xp y j)) (fun j => F.mul_lt _ _) (j0 := p a) (v := D.mul (D.mul (D.xp x (px a)) (D.xp y (p a))) (s a)) (F.mul_lt _ _) (by
      show D.mul (D.ev (gzf p s (a + 1) (p a)) x (gz p s (a + 1) (p a)).length) (D.xp y (p a)) = D.ad (D.mul (D.ev (gzf p s a (p a)) x (gz p s a (p a)).length) (D.xp y (p a))) _
      rw [hev, ad_mul F (ev_lt F _ _ _) (F.mul_lt _ _)]
      congr 1
      rw [F.mul_comm (s a), F.mul_assoc, F.mul_assoc, F.mul_comm (s a)]) m (fun j _ hne => by
      show D.mul (D.ev (gzf p s (a + 1) j) x (gz p s (a + 1) j).length) (D.xp y j) = _
      unfold gzf
      rw [gz_off hne])
    exact (hput.1 ha.1).symm
end Go.Proofs.Ytcgmllamiaflcaa
