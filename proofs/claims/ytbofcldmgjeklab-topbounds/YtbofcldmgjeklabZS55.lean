/- Texts of ours, one behind the other: S55 S56. -/
import Derived.Test.YtbofcldmgjeklabZS52
import Derived.Test.YtbofcldmgjeklabZKB3
import Derived.Test.YtbofcldmgjeklabZKL7
import Derived.Test.YtbofcldmgjeklabZV7
/- Plain mathematics: Griesmer's bound (words of a code where others are nought). No Go text here. -/
namespace Go.Proofs.Ytbofcldmgjeklab
open Go.RowKit Go.Sort

theorem min_of {α : Type} (P : α → Prop) (f : α → Nat) : ∀ N x, f x ≤ N → P x → ∃ y, P y ∧ ∀ z, P z → f y ≤ f z
  | 0, x, h, hx => ⟨x, hx, fun z _ => by omega⟩
  | N + 1, x, h, hx => by
    by_cases c : ∃ z, P z ∧ f z < f x
    · obtain ⟨z, hz, h1⟩ := c
      exact min_of P f N z (by omega) hz
    · refine ⟨x, hx, fun z hz => ?_⟩
      rcases Nat.lt_or_ge (f z) (f x) with e | e
      · exact absurd ⟨z, hz, e⟩ c
      · exact e
/-- The weight of a word at some places. -/
def wS (S : Nat → Bool) (v : Nat → Nat) (n : Nat) : Nat := ct (fun j => S j && !decide (v j = 0)) n
theorem ct_int (p : Nat → Bool) (n : Nat) : ((ct p (n + 1) : Nat) : Int) = (ct p n : Nat) + bi (p n) := by
  show ((ct p n + (if p n = true then 1 else 0) : Nat) : Int) = _
  unfold bi
  split <;> omega
theorem nz_sum {D : FD} (hD : D ∈ fieldsL) {b s : Nat} (hb : b < D.q) (hs : s < D.q) (h0 : s ≠ 0) : zsum (fun a => bi (!decide (D.ad b (D.mul a s) = 0))) D.q = (D.q : Int) - 1 := by
  have F := fld hD
  have h2 := F.q2
  have h1 := chi_lin hD hb hs h0
  have e : zsum (fun a => chi D.q (D.ad b (D.mul s a))) D.q = zsum (fun a => ((D.q : Int) - 1) + (-(D.q : Int)) * bi (!decide (D.ad b (D.mul a s) = 0))) D.q := zsum_congr _ (fun a _ => by
    rw [F.mul_comm a s]
    unfold chi
    by_cases c : D.ad b (D.mul s a) = 0
    · rw [if_pos c, decide_eq_true c]; show _ = _ + _ * bi false; rw [bi_f]; omega
    · rw [if_neg c, decide_eq_false c]; show _ = _ + _ * bi true; rw [bi_t]; omega)
  rw [e, zsum_add, zsum_const, zsum_mul, Int.neg_mul] at h1
  have h3 : (D.q : Int) * zsum (fun a => bi (!decide (D.ad b (D.mul a s) = 0))) D.q = (D.q : Int) * ((D.q : Int) - 1) := by omega
  exact Int.eq_of_mul_eq_mul_left (by omega) h3
/-- All that is a word and a multiple of another, weighed together. -/
theorem wS_sum {D : FD} (hD : D ∈ fieldsL) (S : Nat → Bool) {v c : Nat → Nat} (hv : El D v) (hc : El D c) : ∀ n, zsum (fun a => ((wS S (padd D v (pscale D a c)) n : Nat) : Int)) D.q = (D.q : Int) * (wS (fun j => S j && decide (c j = 0)) v n : Nat) + ((D.q : Int) - 1) * (wS S c n : Nat)
  | 0 => by
    show zsum (fun _ => ((0 : Nat) : Int)) D.q = (D.q : Int) * ((0 : Nat) : Int) + ((D.q : Int) - 1) * ((0 : Nat) : Int)
    rw [zsum_const]; simp
  | n + 1 => by
    have F := fld hD
    have ih := wS_sum hD S hv hc n
    have e1 : zsum (fun a => ((wS S (padd D v (pscale D a c)) (n + 1) : Nat) : Int)) D.q = zsum (fun a => ((wS S (padd D v (pscale D a c)) n : Nat) : Int)) D.q + zsum (fun a => bi (S n && !decide (D.ad (v n) (D.mul a (c n)) = 0))) D.q := by
      rw [← zsum_add]
      exact zsum_congr _ (fun a _ => ct_int _ _)
    have e2 : ((wS (fun j => S j && decide (c j = 0)) v (n + 1) : Nat) : Int) = (wS (fun j => S j && decide (c j = 0)) v n : Nat) + bi ((S n && decide (c n = 0)) && !decide (v n = 0)) := ct_int _ _
    have e3 : ((wS S c (n + 1) : Nat) : Int) = (wS S c n : Nat) + bi (S n && !decide (c n = 0)) := ct_int _ _
    rw [e1, e2, e3, ih, Int.mul_add, Int.mul_add]
    have e4 : zsum (fun a => bi (S n && !decide (D.ad (v n) (D.mul a (c n)) = 0))) D.q = (D.q : Int) * bi ((S n && decide (c n = 0)) && !decide (v n = 0)) + ((D.q : Int) - 1) * bi (S n && !decide (c n = 0)) := by
      cases S n
      · show zsum (fun _ => bi false) D.q = (D.q : Int) * bi false + ((D.q : Int) - 1) * bi false
        rw [zsum_const, bi_f]; simp
      · by_cases e : c n = 0
        · have e5 : zsum (fun a => bi (true && !decide (D.ad (v n) (D.mul a (c n)) = 0))) D.q = zsum (fun _ => bi (!decide (v n = 0))) D.q := zsum_congr _ (fun a _ => by
            rw [e, mul0 F, ad_zero F (hv n)]; rfl)
          rw [e5, zsum_const, decide_eq_true e]
          show _ = (D.q : Int) * bi (!decide (v n = 0)) + ((D.q : Int) - 1) * bi false
          rw [bi_f]; omega
        · have e5 := nz_sum hD (hv n) (hc n) e
          have e6 : zsum (fun a => bi (true && !decide (D.ad (v n) (D.mul a (c n)) = 0))) D.q = (D.q : Int) - 1 := e5
          rw [e6, decide_eq_false e]
          show _ = (D.q : Int) * bi false + ((D.q : Int) - 1) * bi true
          rw [bi_f, bi_t]; omega
    rw [e4]
    omega
theorem wS_split (S : Nat → Bool) (c : Nat → Nat) : ∀ n, ct (fun j => S j && decide (c j = 0)) n + wS S c n = ct S n
  | 0 => rfl
  | n + 1 => by
    have ih := wS_split S c n
    show ct (fun j => S j && decide (c j = 0)) n + (if (S n && decide (c n = 0)) = true then 1 else 0) + (wS S c n + (if (S n && !decide (c n = 0)) = true then 1 else 0)) = ct S n + (if S n = true then 1 else 0)
    cases S n <;> cases decide (c n = 0) <;> simp <;> omega
theorem gd_front (q d : Nat) : ∀ i, gd q d (i + 1) = gd q ((d + q - 1) / q) i
  | 0 => rfl
  | i + 1 => by
    show (gd q d (i + 1) + q - 1) / q = (gd q ((d + q - 1) / q) i + q - 1) / q
    rw [gd_front q d i]
theorem gs_front (q d : Nat) : ∀ j, gs q d (j + 1) = d + gs q ((d + q - 1) / q) j
  | 0 => by show 0 + d = d + 0; omega
  | j + 1 => by
    show gs q d (j + 1) + gd q d (j + 1) = d + (gs q ((d + q - 1) / q) j + gd q ((d + q - 1) / q) j)
    rw [gs_front q d j, gd_front q d j]; omega
theorem gd_mono {q d e : Nat} (h : d ≤ e) : ∀ i, gd q d i ≤ gd q e i
  | 0 => h
  | i + 1 => Nat.div_le_div_right (by have := gd_mono (q := q) h i; omega)
theorem gs_mono {q d e : Nat} (h : d ≤ e) : ∀ j, gs q d j ≤ gs q e j
  | 0 => Nat.le_refl _
  | j + 1 => Nat.add_le_add (gs_mono h j) (gd_mono h j)
theorem up_of {q w x : Nat} (hq : 1 ≤ q) (h : w ≤ q * x) : (w + q - 1) / q ≤ x := by
  have : (w + q - 1) / q < x + 1 := (Nat.div_lt_iff_lt_mul (by omega)).2 (by rw [Nat.add_mul, Nat.mul_comm x q]; omega)
  omega
theorem ct_hole {p : Nat → Bool} {n : Nat} (h : ct p n < n) : ∃ i, i < n ∧ p i = false := by
  refine Classical.byContradiction fun hn => ?_
  have := ct_all (p := p) n (fun i hi => by
    cases e : p i
    · exact absurd ⟨i, hi, e⟩ hn
    · rfl)
  omega
theorem zsum_ge {f : Nat → Int} {x : Int} (n : Nat) (h : ∀ a, a < n → x ≤ f a) : (n : Int) * x ≤ zsum f n := by
  have := zsum_le n h
  rwa [zsum_const] at this
/-- What is in a code and nought at some of its beginnings. -/
def VT (D : FD) (k : Nat) (R : Nat → Nat → Nat) (p : Nat → Nat) (T : Nat → Bool) (v : Nat → Nat) : Prop := El D v ∧ Spn D (RowsOf k R) v ∧ (∀ t, t < k → T t = true → v (p t) = 0) ∧ v ≠ pnil
theorem gri_go {D : FD} (hD : D ∈ fieldsL) {n k : Nat} {R : Nat → Nat → Nat} {p : Nat → Nat} (h : RRE D n k R p) : ∀ j (T S : Nat → Bool) (w : Nat), ct T k + j ≤ k → (∀ v, VT D k R p T v → w ≤ wS S v n) → gs D.q w j ≤ ct S n
  | 0, _, _, _, _, _ => Nat.zero_le _
  | j + 1, T, S, w, hT, hw => by
    have F := fld hD
    have h2 := F.q2
    obtain ⟨t0, ht0, hf0⟩ := ct_hole (p := T) (n := k) (by omega)
    have hR0 : VT D k R p T (R t0) := ⟨h.el t0 ht0, spn_mem F (h.el t0 ht0) ⟨t0, ht0, rfl⟩, fun t ht hTt => h.zero t0 t ht0 ht (fun e => by rw [e, hTt] at hf0; cases hf0), fun e => by
      have h1 := h.one t0 ht0
      rw [e] at h1
      exact Nat.one_ne_zero h1.symm⟩
    obtain ⟨c, ⟨hc1, hc2, hc3, hc4⟩, hmin⟩ := min_of (VT D k R p T) (fun v => wS S v n) _ (R t0) (Nat.le_refl _) hR0
    have hw0 := hw c ⟨hc1, hc2, hc3, hc4⟩
    obtain ⟨t1, ht1, hct⟩ : ∃ t, t < k ∧ c (p t) ≠ 0 := by
      refine Classical.byContradiction fun hn => hc4 (rre_nil F h hc2 (fun i hi => ?_))
      exact Classical.byContradiction fun e => hn ⟨i, hi, e⟩
    have hT' : ct (fun i => T i || decide (i = t1)) k ≤ ct T k + 1 := by
      have := ct_one1 (p := fun i => T i || decide (i = t1)) (p' := T) t1 k (fun i _ hi e => by
        rw [decide_eq_false hi, Bool.or_false] at e; exact e)
      rw [if_pos ht1] at this
      exact this
    have hrec := gri_go hD h j (fun i => T i || decide (i = t1)) (fun j => S j && decide (c j = 0)) ((wS S c n + D.q - 1) / D.q) (by omega) (fun v ⟨hv1, hv2, hv3, hv4⟩ => by
      refine up_of (by omega) ?_
      have hz1 : v (p t1) = 0 := hv3 t1 ht1 (by simp)
      have hge := zsum_ge (f := fun a => ((wS S (padd D v (pscale D a c)) n : Nat) : Int)) (x := ((wS S c n : Nat) : Int)) D.q (fun a ha => by
        have hV : VT D k R p T (padd D v (pscale D a c)) := ⟨el_add F hv1 (el_scale F _ _), spn_add F hv2 (spn_scale F _ hc2), fun t ht hTt => by
          show D.ad (v (p t)) (D.mul a (c (p t))) = 0
          rw [hv3 t ht (by simp [hTt]), hc3 t ht hTt, mul0 F, ad_zero F (zero_lt' F)], fun e => by
          have h3 := congrFun e (p t1)
          have h4 : D.ad (v (p t1)) (D.mul a (c (p t1))) = 0 := h3
          rw [hz1, zero_ad F (F.mul_lt _ _)] at h4
          by_cases ea : a = 0
          · rw [ea, pscale_zero F, padd_nil F hv1] at e
            exact hv4 e
          · exact mul_ne hD ha (hc1 _) ea hct h4⟩
        have := hmin _ hV
        show ((wS S c n : Nat) : Int) ≤ ((wS S (padd D v (pscale D a c)) n : Nat) : Int)
        omega)
      rw [wS_sum hD S hv1 hc1 n, Int.sub_mul, Int.one_mul] at hge
      have e1 : ((D.q * wS (fun j => S j && decide (c j = 0)) v n : Nat) : Int) = (D.q : Int) * (wS (fun j => S j && decide (c j = 0)) v n : Nat) := by simp
      omega)
    have hsp := wS_split S c n
    have hm := gs_mono (q := D.q) hw0 (j + 1)
    rw [gs_front D.q (wS S c n) j] at hm
    omega
/-- Griesmer. -/
theorem far_gri {D : FD} (hD : D ∈ fieldsL) {n k d : Nat} {R : Nat → Nat → Nat} {p : Nat → Nat} (h : RRE D n k R p) (hf : Far D n k R d) : gs D.q d k ≤ n := by
  have F := fld hD
  have h1 := gri_go hD h k (fun _ => false) (fun _ => true) d (by rw [ct_none k (fun _ _ => rfl)]; omega) (fun v ⟨hv1, hv2, _, hv4⟩ => by
    have e := rre_coord F h hv2
    have e2 := hf (fun i => if i < k then v (p i) else 0) (fun i => by show (if i < k then v (p i) else 0) < D.q; split; exact hv1 _; exact zero_lt' F) (fun i hi => if_neg (by omega)) (fun e0 => hv4 (rre_nil F h hv2 (fun i hi => by
      have := congrFun e0 i
      rw [if_pos hi] at this
      exact this)))
    rw [enw_lc, ← e] at e2
    have e3 : wtn v n = wS (fun _ => true) v n := ct_same n (fun i _ => by
      show (!decide (((v i : Nat) : Int) = 0)) = (true && !decide (v i = 0))
      by_cases c : v i = 0
      · rw [c]; rfl
      · rw [decide_eq_false c, decide_eq_false (by omega)]; rfl)
    omega)
  rw [ct_alltrue] at h1
  exact h1
end Go.Proofs.Ytbofcldmgjeklab

/- Plain mathematics: Hamming's bound (balls around a code's words), and Varshamov's number against it. No Go text here. -/
namespace Go.Proofs.Ytbofcldmgjeklab
open Go.RowKit Go.Sort

/-- At how many places two words differ. -/
def dsg (u c : Nat → Nat) (n : Nat) : Nat := ct (fun j => !decide (u j = c j)) n
theorem dsg_pt (v c : Nat → Nat) (n a : Nat) : dsg (pt v n a) c (n + 1) = dsg v c n + if a = c n then 0 else 1 := by
  have h : dsg (pt v n a) c n = dsg v c n := ct_same n (fun i hi => by rw [pt_lo v hi])
  show dsg (pt v n a) c n + (if (!decide (pt v n a n = c n)) = true then 1 else 0) = _
  rw [h, pt_at]
  by_cases e : a = c n
  · rw [if_pos e, if_neg (by simp [e])]
  · rw [if_neg e, if_pos (by simp [e])]
theorem dsg_tri (a u b : Nat → Nat) (n : Nat) : dsg a b n ≤ dsg u a n + dsg u b n := by
  refine Nat.le_trans (ct_mono n (p' := fun i => (!decide (u i = a i)) || (!decide (u i = b i))) (fun i _ h => ?_)) (ct_or _ _ n)
  by_cases e1 : u i = a i
  · by_cases e2 : u i = b i
    · rw [decide_eq_true (e1.symm.trans e2)] at h; cases h
    · rw [decide_eq_false e2]; simp
  · rw [decide_eq_false e1]; simp
theorem zsum_two (x y : Int) {b q : Nat} (hb : b < q) : zsum (fun a => if a = b then x else y) q = x + ((q : Int) - 1) * y := by
  have e : zsum (fun a => if a = b then x else y) q = zsum (fun a => y + (if a = b then (fun _ => x - y) a else 0)) q := zsum_congr _ (fun a _ => by
    by_cases c : a = b
    · rw [if_pos c, if_pos c]; show x = y + (x - y); omega
    · rw [if_neg c, if_neg c]; omega)
  rw [e, zsum_add, zsum_const, zsum_one (fun _ => x - y) q hb, Int.sub_mul, Int.one_mul]
  omega
/-- How many words differ from a word at so many places. -/
theorem dsg_sum {D : FD} (F : Fld D) {c : Nat → Nat} (hc : El D c) : ∀ n i, wsum D.q n (fun u => bi (decide (dsg u c n = i))) = (((D.q - 1) ^ i * chs n i : Nat) : Int)
  | 0, 0 => by
    show bi (decide ((0 : Nat) = 0)) = (((D.q - 1) ^ 0 * 1 : Nat) : Int)
    simp [bi]
  | 0, i + 1 => by
    show bi (decide ((0 : Nat) = i + 1)) = (((D.q - 1) ^ (i + 1) * 0 : Nat) : Int)
    rw [decide_eq_false (by omega), bi_f]; simp
  | n + 1, i => by
    have h2 := F.q2
    have e0 : ∀ a, wsum D.q n (fun v => bi (decide (dsg (pt v n a) c (n + 1) = i))) = if a = c n then (((D.q - 1) ^ i * chs n i : Nat) : Int) else wsum D.q n (fun v => bi (decide (dsg v c n + 1 = i))) := fun a => by
      by_cases e : a = c n
      · rw [if_pos e, ← dsg_sum F hc n i]
        exact wsum_congr F n (fun v _ _ => by rw [dsg_pt, if_pos e]; rfl)
      · rw [if_neg e]
        exact wsum_congr F n (fun v _ _ => by rw [dsg_pt, if_neg e])
    show zsum (fun a => wsum D.q n (fun v => bi (decide (dsg (pt v n a) c (n + 1) = i)))) D.q = _
    rw [zsum_congr D.q (fun a _ => e0 a), zsum_two _ _ (hc n)]
    cases i with
    | zero =>
      rw [wsum_congr F n (g := fun _ => 0) (fun v _ _ => by rw [decide_eq_false (by omega), bi_f]), wsum_nil, chs_zero, chs_zero]
      simp
    | succ i =>
      rw [wsum_congr F n (g := fun v => bi (decide (dsg v c n = i))) (fun v _ _ => by
        by_cases e : dsg v c n = i
        · rw [decide_eq_true e, decide_eq_true (by omega)]
        · rw [decide_eq_false e, decide_eq_false (by omega)]), dsg_sum F hc n i]
      have e1 : (D.q : Int) - 1 = ((D.q - 1 : Nat) : Int) := by omega
      rw [e1, ← Int.natCast_mul, ← Int.natCast_add]
      congr 1
      show _ = (D.q - 1) ^ (i + 1) * (chs n i + chs n (i + 1))
      rw [Nat.mul_add, Nat.pow_succ, ← Nat.mul_assoc, Nat.mul_comm (D.q - 1) ((D.q - 1) ^ i)]
      omega
/-- How many words lie in a ball. -/
theorem ball_sum {D : FD} (F : Fld D) {c : Nat → Nat} (hc : El D c) (n : Nat) : ∀ r, wsum D.q n (fun u => bi (decide (dsg u c n < r))) = ((bls D.q n r : Nat) : Int)
  | 0 => by
    rw [wsum_congr F n (g := fun _ => 0) (fun u _ _ => by rw [decide_eq_false (by omega), bi_f]), wsum_nil]; rfl
  | r + 1 => by
    rw [wsum_congr F n (g := fun u => bi (decide (dsg u c n < r)) + bi (decide (dsg u c n = r))) (fun u _ _ => by
      rcases Nat.lt_trichotomy (dsg u c n) r with e | e | e
      · rw [decide_eq_true e, decide_eq_true (by omega), decide_eq_false (by omega)]; rfl
      · rw [decide_eq_true (show dsg u c n < r + 1 by omega), decide_eq_false (show ¬ dsg u c n < r by omega), decide_eq_true e]; rfl
      · rw [decide_eq_false (by omega), decide_eq_false (by omega), decide_eq_false (by omega)]; rfl), wsum_add, ball_sum F hc n r, dsg_sum F hc n r, ← Int.natCast_add]
    rfl
/-- A sum in which at most one counts. -/
theorem wsum_once {D : FD} (F : Fld D) (k : Nat) {P : (Nat → Nat) → Bool} (h : ∀ m m', El D m → Bd k m → El D m' → Bd k m' → P m = true → P m' = true → m = m') : wsum D.q k (fun m => bi (P m)) ≤ 1 := by
  by_cases c : ∃ m, El D m ∧ Bd k m ∧ P m = true
  · obtain ⟨m0, h1, h2, h3⟩ := c
    refine Int.le_trans (wsum_le F k (g := fun m => bi (agB k m m0) * (fun _ => (1 : Int)) m) (fun m hm hb => ?_)) (Int.le_of_eq (wsum_at F k (fun _ => 1) h1 h2))
    show bi (P m) ≤ bi (agB k m m0) * 1
    cases e : P m
    · rw [bi_f]; have := bi_nn (agB k m m0); omega
    · rw [(agB_eq hb h2).2 (h m m0 hm hb h1 h2 e h3), bi_t]; omega
  · have := wsum_le F k (f := fun m => bi (P m)) (g := fun _ => 0) (fun m hm hb => by
      cases e : P m
      · rw [bi_f]; omega
      · exact absurd ⟨m, hm, hb, e⟩ c)
    rw [wsum_nil] at this
    omega
theorem far_spn {D : FD} (F : Fld D) {n k d : Nat} {R : Nat → Nat → Nat} {p : Nat → Nat} (h : RRE D n k R p) (hf : Far D n k R d) {v : Nat → Nat} (hv1 : El D v) (hv2 : Spn D (RowsOf k R) v) (hv4 : v ≠ pnil) : d ≤ wtn v n := by
  have e := rre_coord F h hv2
  have e2 := hf (fun i => if i < k then v (p i) else 0) (fun i => by show (if i < k then v (p i) else 0) < D.q; split; exact hv1 _; exact zero_lt' F) (fun i hi => if_neg (by omega)) (fun e0 => hv4 (rre_nil F h hv2 (fun i hi => by
    have := congrFun e0 i
    rw [if_pos hi] at this
    exact this)))
  rw [enw_lc, ← e] at e2
  exact e2
theorem far_msg {D : FD} (F : Fld D) {n k d : Nat} {R : Nat → Nat → Nat} {p : Nat → Nat} (h : RRE D n k R p) (hf : Far D n k R d) {m m' : Nat → Nat} (hm : El D m) (hb : Bd k m) (hm' : El D m') (hb' : Bd k m') (hd : dsg (enw D R m k) (enw D R m' k) n < d) : m = m' := by
  have e1 : psub D (enw D R m k) (enw D R m' k) = pnil := by
    refine Classical.byContradiction fun hne => ?_
    have h1 := far_spn F h hf (v := psub D (enw D R m k) (enw D R m' k)) (fun j => sb_lt F (enw_el F k j) (enw_el F k j)) (spn_sub F (enw_in F h m).1 (enw_in F h m').1) hne
    have h2 : wtn (psub D (enw D R m k) (enw D R m' k)) n = dsg (enw D R m k) (enw D R m' k) n := ct_same n (fun j _ => by
      show (!decide (((D.sb (enw D R m k j) (enw D R m' k j) : Nat) : Int) = 0)) = (!decide (enw D R m k j = enw D R m' k j))
      by_cases c : enw D R m k j = enw D R m' k j
      · rw [decide_eq_true c, c, sb_self F (enw_el F k j)]; rfl
      · have : D.sb (enw D R m k j) (enw D R m' k j) ≠ 0 := fun e => c (sb_eq_zero F (enw_el F k j) (enw_el F k j) e)
        rw [decide_eq_false c, decide_eq_false (by omega)])
    omega
  funext i
  by_cases hi : i < k
  · have h3 := sb_eq_zero F (enw_el F k (p i)) (enw_el F k (p i)) (congrFun e1 (p i))
    rw [enw_piv F h hm hi k (Nat.le_refl _), enw_piv F h hm' hi k (Nat.le_refl _), if_pos hi, if_pos hi] at h3
    exact h3
  · rw [hb i (by omega), hb' i (by omega)]
/-- Hamming. -/
theorem far_ham {D : FD} (F : Fld D) {n k d : Nat} {R : Nat → Nat → Nat} {p : Nat → Nat} (h : RRE D n k R p) (hf : Far D n k R d) {t : Nat} (ht : 2 * t < d) : D.q ^ k * bls D.q n (t + 1) ≤ D.q ^ n := by
  have h1 : wsum D.q n (fun u => wsum D.q k (fun m => bi (decide (dsg u (enw D R m k) n < t + 1)))) ≤ wsum D.q n (fun _ => 1) := wsum_le F n (fun u _ _ => wsum_once F k (P := fun m => decide (dsg u (enw D R m k) n < t + 1)) (fun m m' hm hb hm' hb' e e' => by
    have e := of_decide_eq_true e
    have e' := of_decide_eq_true e'
    have := dsg_tri (enw D R m k) u (enw D R m' k) n
    exact far_msg F h hf hm hb hm' hb' (by omega)))
  rw [wsum_swap, wsum_congr F k (g := fun _ => ((bls D.q n (t + 1) : Nat) : Int) * 1) (fun m _ _ => by rw [ball_sum F (enw_el F k) n (t + 1), Int.mul_one]), wsum_mul, wsum_one, wsum_one, ← Int.natCast_mul, Nat.mul_comm] at h1
  omega
theorem ham_ge {D : FD} (F : Fld D) {n k d : Nat} {R : Nat → Nat → Nat} {p : Nat → Nat} (h : RRE D n k R p) (hf : Far D n k R d) (hd : 1 ≤ d) : D.q ^ k ≤ D.q ^ n / bls D.q n ((d - 1) / 2 + 1) := by
  rw [Nat.le_div_iff_mul_le (bls_pos _)]
  exact far_ham F h hf (by omega)
theorem vrs_pos {q n d : Nat} (hq : 2 ≤ q) (hd : 1 ≤ d) : 1 ≤ vrs q n d := by
  unfold vrs
  obtain ⟨e, rfl⟩ : ∃ e, d = e + 1 := ⟨d - 1, by omega⟩
  have h1 := bls_pos (q := q) (n := n) e
  have h2 : 0 < q ^ n := Nat.pow_pos (by omega)
  rw [Nat.le_div_iff_mul_le (by omega)]
  omega
theorem vrs_chk : ([2, 3, 4, 5, 7, 8].all fun q => (List.range 13).all fun n => (List.range (n + 1)).all fun d => d == 0 || Nat.ble (vrs q n d) (q ^ n / bls q n ((d - 1) / 2 + 1))) = true := by decide +kernel
/-- Varshamov's number is not above Hamming's. -/
theorem vrs_ham {q n d : Nat} (hq : q ∈ [2, 3, 4, 5, 7, 8]) (hn : n ≤ 12) (hd : 1 ≤ d) (hdn : d ≤ n) : vrs q n d ≤ q ^ n / bls q n ((d - 1) / 2 + 1) := by
  have h1 := List.all_eq_true.1 (List.all_eq_true.1 (List.all_eq_true.1 vrs_chk q hq) n (List.mem_range.2 (by omega))) d (List.mem_range.2 (by omega))
  rw [Bool.or_eq_true] at h1
  rcases h1 with e | e
  · have := beq_iff_eq.1 e; omega
  · exact Nat.le_of_ble_eq_true e
end Go.Proofs.Ytbofcldmgjeklab
