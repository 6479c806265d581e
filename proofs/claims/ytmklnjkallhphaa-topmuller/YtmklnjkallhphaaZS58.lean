/- Muller: the codes' rows: independent; the dual is one of them; how far their words lie apart. -/
import Derived.Test.YtmklnjkallhphaaZKO8
import Derived.Test.YtmklnjkallhphaaZKL8
import Derived.Test.YtmklnjkallhphaaZI28
import Derived.Test.YtmklnjkallhphaaZI5
namespace Go.Proofs.Ytmklnjkallhphaa

/-- The field of two. -/
def FM : FD := ⟨2, 2, 1, 0, 1⟩
theorem FM_in : FM ∈ fieldsL := List.Mem.head _
theorem FM_ad {a b : Nat} (ha : a < 2) (hb : b < 2) : FM.ad a b = (a + b) % 2 := by
  have h : (List.range 2).all (fun a => (List.range 2).all fun b => FM.ad a b == (a + b) % 2) = true := by decide +kernel
  have := List.all_eq_true.1 (List.all_eq_true.1 h a (List.mem_range.2 ha)) b (List.mem_range.2 hb)
  exact eq_of_beq this
theorem FM_mul {a b : Nat} (ha : a < 2) (hb : b < 2) : FM.mul a b = a * b := by
  have h : (List.range 2).all (fun a => (List.range 2).all fun b => FM.mul a b == a * b) = true := by decide +kernel
  have := List.all_eq_true.1 (List.all_eq_true.1 h a (List.mem_range.2 ha)) b (List.mem_range.2 hb)
  exact eq_of_beq this
theorem mof_lt (t x : Nat) : mof t x < 2 := by unfold mof; split <;> omega
/-- A code's rows: the monomials' words. -/
def mrow (l : List Nat) (P i : Nat) : Nat → Nat := fun x => if x < P then mof (l.getD i 0) x else 0
/-- A message's word. -/
def wordf (l : List Nat) (P : Nat) (g : Nat → Nat) (k : Nat) : Nat → Nat := fun x => if x < P then mwv l g x k else 0
theorem mrow_el (l : List Nat) (P i : Nat) : El FM (mrow l P i) := fun x => by
  show mrow l P i x < 2
  unfold mrow
  split
  · exact mof_lt _ _
  · omega
theorem mrow_bd (l : List Nat) (P i : Nat) : Bd P (mrow l P i) := fun x hx => by unfold mrow; rw [if_neg (by omega)]
theorem wordf_lt (l : List Nat) (P : Nat) (g : Nat → Nat) (k x : Nat) : wordf l P g k x < 2 := by
  unfold wordf
  split
  · exact mwv_lt _ _ _ _
  · omega
theorem mwv_sum (l : List Nat) (g h : Nat → Nat) (x : Nat) (hg : ∀ i, g i < 2) (hh : ∀ i, h i < 2) : ∀ k, mwv l (fun i => (g i + h i) % 2) x k = (mwv l g x k + mwv l h x k) % 2
  | 0 => rfl
  | k + 1 => by
    have a := mwv_step l (fun i => (g i + h i) % 2) x k
    have b := mwv_step l g x k
    have c := mwv_step l h x k
    have d := mwv_lt l (fun i => (g i + h i) % 2) x (k + 1)
    have ih := mwv_sum l g h x hg hh k
    have e1 := hg k
    have e2 := hh k
    have : g k = 0 ∨ g k = 1 := by omega
    have : h k = 0 ∨ h k = 1 := by omega
    have hm := mof_lt (l.getD k 0) x
    rcases ‹g k = 0 ∨ g k = 1› with u | u <;> rcases ‹h k = 0 ∨ h k = 1› with v | v <;> simp only [u, v] at a b c <;> simp at a b c <;> omega
theorem mwv_none (l : List Nat) (x : Nat) : ∀ k, mwv l (fun _ => 0) x k = 0
  | 0 => rfl
  | k + 1 => by
    show (if (0 : Nat) = 1 ∧ mon (l.getD k 0) x = true then 1 - mwv l (fun _ => 0) x k else mwv l (fun _ => 0) x k) = 0
    rw [if_neg (by omega), mwv_none l x k]
theorem mwv_unit (l : List Nat) (x i : Nat) : ∀ k, mwv l (fun j => if j = i then 1 else 0) x k = if i < k then mof (l.getD i 0) x else 0
  | 0 => rfl
  | k + 1 => by
    have a := mwv_step l (fun j => if j = i then 1 else 0) x k
    have d := mwv_lt l (fun j => if j = i then 1 else 0) x (k + 1)
    have hm := mof_lt (l.getD i 0) x
    rw [mwv_unit l x i k] at a
    by_cases e : k = i
    · subst e
      have e1 : (if k < k then mof (l.getD k 0) x else 0) = 0 := if_neg (by omega)
      have e2 : (if (if k = k then 1 else 0) = 1 then mof (l.getD k 0) x else 0) = mof (l.getD k 0) x := by rw [if_pos (if_pos rfl)]
      rw [e1, e2] at a
      rw [if_pos (show k < k + 1 by omega)]
      omega
    · have e2 : (if (if k = i then 1 else 0) = 1 then mof (l.getD k 0) x else 0) = 0 := by rw [if_neg e, if_neg (by omega)]
      rw [e2] at a
      by_cases h : i < k
      · rw [if_pos h] at a; rw [if_pos (show i < k + 1 by omega)]; omega
      · rw [if_neg h] at a; rw [if_neg (show ¬ i < k + 1 by omega)]; omega
/-- What the rows span are the messages' words. -/
theorem spn_wordf {l : List Nat} {P k : Nat} {v : Nat → Nat} (h : Spn FM (RowsOf k (mrow l P)) v) : ∃ g : Nat → Nat, (∀ i, g i < 2) ∧ v = wordf l P g k := by
  refine spn_ind (Q := fun v => ∃ g : Nat → Nat, (∀ i, g i < 2) ∧ v = wordf l P g k) ?_ ?_ ?_ ?_ h
  · refine ⟨fun _ => 0, fun _ => by show 0 < 2; omega, funext fun x => ?_⟩
    unfold wordf pnil
    rw [mwv_none]; split <;> rfl
  · rintro u v ⟨g, hg, rfl⟩ ⟨g', hg', rfl⟩
    refine ⟨fun i => (g i + g' i) % 2, fun i => by show (g i + g' i) % 2 < 2; omega, funext fun x => ?_⟩
    show FM.ad (wordf l P g k x) (wordf l P g' k x) = _
    rw [FM_ad (wordf_lt _ _ _ _ _) (wordf_lt _ _ _ _ _)]
    unfold wordf
    split
    · exact (mwv_sum l g g' x hg hg' k).symm
    · rfl
  · rintro s v ⟨g, hg, rfl⟩
    have hc : FM.mul s 1 < 2 := (fld FM_in).mul_lt s 1
    have hv : ∀ x, pscale FM s (wordf l P g k) x = FM.mul s 1 * wordf l P g k x := fun x => by
      show FM.mul s (wordf l P g k x) = _
      have : wordf l P g k x = 0 ∨ wordf l P g k x = 1 := by have := wordf_lt l P g k x; omega
      rcases this with e | e <;> rw [e]
      · rw [mul0 (fld FM_in)]; rfl
      · rw [Nat.mul_one]
    have : FM.mul s 1 = 0 ∨ FM.mul s 1 = 1 := by omega
    rcases this with e | e
    · refine ⟨fun _ => 0, fun _ => by show 0 < 2; omega, funext fun x => ?_⟩
      rw [hv, e, Nat.zero_mul]
      unfold wordf
      rw [mwv_none]; split <;> rfl
    · exact ⟨g, hg, funext fun x => by rw [hv, e, Nat.one_mul]⟩
  · rintro v ⟨i, hi, rfl⟩
    refine ⟨fun j => if j = i then 1 else 0, fun j => by dsimp only; split <;> omega, funext fun x => ?_⟩
    unfold wordf mrow
    rw [mwv_unit, if_pos hi]
theorem mrow_free {m : Nat} (h1 : 1 ≤ m) (h : m ≤ 5) {l : List Nat} (hl : MOrd m l) {j : Nat} (hj : j < l.length) : ¬ Spn FM (RowsOf j (mrow l (2 ^ m))) (mrow l (2 ^ m) j) := fun hs => by
  obtain ⟨g, hg, e⟩ := spn_wordf hs
  have hP : 0 < 2 ^ m := Nat.pow_pos (by omega)
  have a : csm (l.getD j 0) 0 (mof (l.getD j 0)) (2 ^ m) = 1 := csm_self h1 h (hl.1 j hj) hP (Nat.zero_and _)
  have b : csm (l.getD j 0) 0 (fun x => mwv l g x j) (2 ^ m) = 0 := csm_word h1 h hl g hj hP (Nat.zero_and _) j (Nat.le_refl _)
  have c : csm (l.getD j 0) 0 (mof (l.getD j 0)) (2 ^ m) = csm (l.getD j 0) 0 (fun x => mwv l g x j) (2 ^ m) := csm_congr _ _ _ (fun x hx => by
    have := congrFun e x
    unfold mrow wordf at this
    rw [if_pos hx, if_pos hx] at this
    exact this)
  omega
/-- As many rows as monomials. -/
theorem mrow_red {m : Nat} (h1 : 1 ≤ m) (h : m ≤ 5) {l : List Nat} (hl : MOrd m l) {k : Nat} {R : Nat → Nat → Nat} (hr : Red FM (2 ^ m) l.length (mrow l (2 ^ m)) k R) : k = l.length := by
  obtain ⟨R', p, hR, hs⟩ := rre_full FM_in (n := 2 ^ m) (M := mrow l (2 ^ m)) l.length (fun i _ => mrow_el l _ i) (fun i _ => mrow_bd l _ i) (fun j hj => mrow_free h1 h hl hj)
  exact (Red.uniq (fld FM_in) hr ⟨p, hR, hs⟩ (fun _ => Iff.rfl)).1
/-- The sum of the products of two monomials. -/
def psm2 (s t : Nat) : Nat → Nat
  | 0 => 0
  | n + 1 => (psm2 s t n + mof s n * mof t n) % 2
def cdu (m : Nat) : Bool := alb (fun s => alb (fun t => Nat.ble m (pc s + pc t) || psm2 s t (2 ^ m) == 0) (2 ^ m)) (2 ^ m)
theorem cdu_all {m : Nat} (h1 : 1 ≤ m) (h : m ≤ 5) : cdu m = true := by
  have : m = 1 ∨ m = 2 ∨ m = 3 ∨ m = 4 ∨ m = 5 := by omega
  rcases this with rfl | rfl | rfl | rfl | rfl <;> decide +kernel
theorem psm2_even {m s t : Nat} (h1 : 1 ≤ m) (h : m ≤ 5) (hs : s < 2 ^ m) (ht : t < 2 ^ m) (hp : pc s + pc t < m) : psm2 s t (2 ^ m) = 0 := by
  have := alb_at (alb_at (cdu_all h1 h) s hs) t ht
  rw [Bool.or_eq_true, beq_iff_eq] at this
  rcases this with e | e
  · have := Nat.le_of_ble_eq_true e; omega
  · exact e
theorem dot_mrow (l l' : List Nat) (P i j : Nat) : ∀ n, n ≤ P → dot FM (mrow l P i) (mrow l' P j) n = psm2 (l.getD i 0) (l'.getD j 0) n
  | 0, _ => rfl
  | n + 1, hn => by
    show FM.ad (dot FM (mrow l P i) (mrow l' P j) n) (FM.mul (mrow l P i n) (mrow l' P j n)) = (psm2 (l.getD i 0) (l'.getD j 0) n + mof (l.getD i 0) n * mof (l'.getD j 0) n) % 2
    have a := mrow_el l P i n
    have b := mrow_el l' P j n
    have a' : mrow l P i n < 2 := a
    have b' : mrow l' P j n < 2 := b
    have c : dot FM (mrow l P i) (mrow l' P j) n < 2 := dot_lt (fld FM_in) _ _ n
    rw [FM_mul a' b', FM_ad c (by
      have : mrow l P i n = 0 ∨ mrow l P i n = 1 := by omega
      rcases this with e | e <;> rw [e] <;> omega), dot_mrow l l' P i j n (by omega)]
    unfold mrow
    rw [if_pos (by omega), if_pos (by omega)]
def ccn (m : Nat) : Bool := alb (fun r => (mnl m (r + 1)).length + (mnl m (m - 1 - r + 1)).length == 2 ^ m) m
theorem ccn_all {m : Nat} (h1 : 1 ≤ m) (h : m ≤ 5) : ccn m = true := by
  have : m = 1 ∨ m = 2 ∨ m = 3 ∨ m = 4 ∨ m = 5 := by omega
  rcases this with rfl | rfl | rfl | rfl | rfl <;> decide +kernel
theorem mnl_count {m r : Nat} (h1 : 1 ≤ m) (h : m ≤ 5) (hr : r < m) : (mnl m (r + 1)).length + (mnl m (m - 1 - r + 1)).length = 2 ^ m :=
  eq_of_beq (alb_at (ccn_all h1 h) r hr)
/-- The dual of such a code is such a code. -/
theorem muller_dual {m r : Nat} (h1 : 1 ≤ m) (h : m ≤ 5) (hr : r < m) {k2 k' : Nat} {R2 R' : Nat → Nat → Nat}
    (hd : Dul FM (2 ^ m) (mnl m (r + 1)).length (mrow (mnl m (r + 1)) (2 ^ m)) k2 R2) (hx : Red FM (2 ^ m) (mnl m (m - 1 - r + 1)).length (mrow (mnl m (m - 1 - r + 1)) (2 ^ m)) k' R') : k' = k2 ∧ ∀ i, i < k' → R' i = R2 i := by
  have F := fld FM_in
  obtain ⟨Rm, pm, hRm, hsm⟩ := rre_full FM_in (n := 2 ^ m) (M := mrow (mnl m (r + 1)) (2 ^ m)) (mnl m (r + 1)).length (fun i _ => mrow_el _ _ i) (fun i _ => mrow_bd _ _ i) (fun j hj => mrow_free h1 h (mnl_ord h1 h (by omega)) hj)
  have c1 := hd.count F ⟨pm, hRm, hsm⟩
  have c2 := mrow_red h1 h (mnl_ord h1 h (by omega)) hx
  have c3 := mnl_count h1 h hr
  have e : k' = k2 := by omega
  subst e
  obtain ⟨p', g1, g2⟩ := hx
  have hi := hd.iff F (fun i _ => mrow_el _ _ i)
  obtain ⟨_, _, _, p2, _, _, g3, _⟩ := hd
  have hin : ∀ v, Spn FM (RowsOf k' R') v → Spn FM (RowsOf k' R2) v := fun v hv => by
    refine spn_le F (fun u hu => ?_) ((g2 v).1 hv)
    obtain ⟨j, hj, rfl⟩ := hu
    refine (hi _).2 ⟨mrow_el _ _ _, mrow_bd _ _ _, fun i hi2 => ?_⟩
    rw [dot_mrow _ _ _ _ _ _ (Nat.le_refl _)]
    have b1 := mnl_few hi2
    have b2 := mnl_few hj
    exact psm2_even h1 h ((mnl_ord h1 h (by omega)).1 i hi2) ((mnl_ord h1 h (by omega)).1 j hj) (by omega)
  have := rre_uniq F g1 g3 (rre_within F g1 g3 hin)
  exact ⟨rfl, fun i hi => (this.2 i hi).2⟩
/-- Such a code lies in the next one. -/
theorem muller_within {m r : Nat} (hr : r + 1 ≤ m) (i : Nat) (hi : i < (mnl m (r + 1)).length) : i < (mnl m (r + 1 + 1)).length ∧ mrow (mnl m (r + 1)) (2 ^ m) i = mrow (mnl m (r + 1 + 1)) (2 ^ m) i := by
  have a := mnl_pre (m := m) (r := r) (by omega)
  have b := mnl_pre (m := m) (r := r + 1) hr
  obtain ⟨t, ht⟩ := pre_mnl m (r + 1) 1
  have hl : (mnl m (r + 1)).length ≤ (mnl m (r + 1 + 1)).length := by rw [ht, List.length_append]; omega
  refine ⟨by omega, funext fun x => ?_⟩
  unfold mrow
  rw [← a.2 i hi, ← b.2 i (by omega)]
theorem muller_sum {m r : Nat} (hr : r + 1 ≤ m) {k k1 u : Nat} {R R1 U : Nat → Nat → Nat}
    (h0 : Red FM (2 ^ m) (mnl m (r + 1)).length (mrow (mnl m (r + 1)) (2 ^ m)) k R) (h2 : Red FM (2 ^ m) (mnl m (r + 1 + 1)).length (mrow (mnl m (r + 1 + 1)) (2 ^ m)) k1 R1) (hu : Red FM (2 ^ m) (k + k1) (apr k R R1) u U) : k1 = u ∧ ∀ i, i < k1 → R1 i = U i := by
  have F := fld FM_in
  have e1 := h2.rows.1
  have e0 := h0.rows.1
  obtain ⟨p0, a1, a2⟩ := h0
  obtain ⟨p1, b1, b2⟩ := h2
  obtain ⟨pu, c1, c2⟩ := hu
  have := rre_uniq F b1 c1 (fun v => by
    rw [c2 v]
    constructor
    · refine spn_le F (fun x hx => ?_)
      obtain ⟨i, hi, rfl⟩ := hx
      refine spn_mem F (e1 i hi) ⟨k + i, by omega, ?_⟩
      unfold apr
      rw [if_neg (by omega), Nat.add_sub_cancel_left]
    · refine spn_le F (fun x hx => ?_)
      obtain ⟨i, hi, rfl⟩ := hx
      unfold apr
      by_cases hik : i < k
      · rw [if_pos hik]
        have hm : Spn FM (RowsOf k R) (R i) := spn_mem F (e0 i hik) ⟨i, hik, rfl⟩
        refine (b2 _).2 (spn_le F (fun y hy => ?_) ((a2 _).1 hm))
        obtain ⟨j, hj, rfl⟩ := hy
        obtain ⟨q1, q2⟩ := muller_within hr j hj
        exact spn_mem F (mrow_el _ _ _) ⟨j, q1, q2⟩
      · rw [if_neg hik]
        exact spn_mem F (e1 _ (by omega)) ⟨i - k, by omega, rfl⟩)
  exact ⟨this.1, fun i hi => (this.2 i hi).2⟩
/-- A word of a message that isn't nought weighs much. -/
theorem wordf_far {m r : Nat} (h1 : 1 ≤ m) (h : m ≤ 5) (hr : r ≤ m) {g : Nat → Nat} : ∀ k, k ≤ (mnl m (r + 1)).length → (∃ i, i < k ∧ g i = 1) → 2 ^ (m - r) ≤ wgt (fun x => mwv (mnl m (r + 1)) g x k) (2 ^ m)
  | 0, _, ⟨i, hi, _⟩ => by omega
  | k + 1, hk, ⟨i, hi, hgi⟩ => by
    have hl := mnl_ord h1 h hr
    by_cases hg : g k = 1
    · have a := cnu_both ((mnl m (r + 1)).getD k 0) (fun x => mwv (mnl m (r + 1)) g x (k + 1)) (2 ^ m) (2 ^ m)
      rw [cnu_free h1 h (hl.1 k (by omega))] at a
      have b : cnu (nos ((mnl m (r + 1)).getD k 0) (fun x => mwv (mnl m (r + 1)) g x (k + 1)) (2 ^ m)) (2 ^ m) = 0 := cnu_none _ (fun y hy => by
        unfold nos
        by_cases h0 : y &&& (mnl m (r + 1)).getD k 0 = 0
        · rw [csm_top h1 h hl g (by omega) hy h0, if_pos hg]; simp
        · rw [decide_eq_false h0]; rfl)
      have c := yes_few ((mnl m (r + 1)).getD k 0) (fun x => mwv (mnl m (r + 1)) g x (k + 1)) (2 ^ m) (fun x _ => mwv_lt _ _ _ _)
      have d : 2 ^ (m - r) ≤ 2 ^ (m - pc ((mnl m (r + 1)).getD k 0)) := Nat.pow_le_pow_right (by omega) (by have := mnl_few (m := m) (r := r) (i := k) (by omega); omega)
      omega
    · have ih := wordf_far h1 h hr k (by omega) ⟨i, by
        by_cases e : i = k
        · subst e; exact absurd hgi hg
        · omega, hgi⟩
      have e : (fun x => mwv (mnl m (r + 1)) g x (k + 1)) = (fun x => mwv (mnl m (r + 1)) g x k) := funext fun x => by
        show (if g k = 1 ∧ mon ((mnl m (r + 1)).getD k 0) x = true then 1 - mwv (mnl m (r + 1)) g x k else mwv (mnl m (r + 1)) g x k) = _
        rw [if_neg (fun hh => hg hh.1)]
      rw [e]; exact ih
theorem wgt_congr {a b : Nat → Nat} : ∀ n, (∀ x, x < n → a x = b x) → wgt a n = wgt b n
  | 0, _ => rfl
  | n + 1, h => by
    show wgt a n + (if a n = 1 then 1 else 0) = wgt b n + (if b n = 1 then 1 else 0)
    rw [wgt_congr n (fun x hx => h x (by omega)), h n (by omega)]
theorem wgt_ct {a : Nat → Nat} : ∀ n, (∀ x, x < n → a x < 2) → ct (fun i => !decide (((a i : Nat) : Int) = 0)) n = wgt a n
  | 0, _ => rfl
  | n + 1, h => by
    show ct (fun i => !decide (((a i : Nat) : Int) = 0)) n + (if (!decide (((a n : Nat) : Int) = 0)) = true then 1 else 0) = wgt a n + if a n = 1 then 1 else 0
    rw [wgt_ct n (fun x hx => h x (by omega))]
    have := h n (by omega)
    have : a n = 0 ∨ a n = 1 := by omega
    rcases this with e | e <;> rw [e] <;> rfl
def cwg (m : Nat) : Bool := alb (fun r => Nat.blt 0 (mnl m (r + 1)).length && wgt (mof ((mnl m (r + 1)).getD ((mnl m (r + 1)).length - 1) 0)) (2 ^ m) == 2 ^ (m - r)) (m + 1)
theorem cwg_all {m : Nat} (h1 : 1 ≤ m) (h : m ≤ 5) : cwg m = true := by
  have : m = 1 ∨ m = 2 ∨ m = 3 ∨ m = 4 ∨ m = 5 := by omega
  rcases this with rfl | rfl | rfl | rfl | rfl <;> decide +kernel
/-- How far the words of such a code lie apart. -/
theorem muller_far {m r : Nat} (h1 : 1 ≤ m) (h : m ≤ 5) (hr : r ≤ m) {k d : Nat} {R : Nat → Nat → Nat} (hred : Red FM (2 ^ m) (mnl m (r + 1)).length (mrow (mnl m (r + 1)) (2 ^ m)) k R)
    (hL : Lwt (wcn FM R (2 ^ m) k (FM.q ^ k)) (2 ^ m + 1) d) : d = 2 ^ (m - r) := by
  have F := fld FM_in
  obtain ⟨p, hR, hs⟩ := hred
  have hP : 2 ^ (m - r) ≤ 2 ^ m := Nat.pow_le_pow_right (by omega) (by omega)
  have hQ : 0 < 2 ^ (m - r) := Nat.pow_pos (by omega)
  refine hL.uniq (Or.inr ⟨hQ, by omega, ?_, fun i hi0 hi => ?_⟩)
  · have c := alb_at (cwg_all h1 h) r (by omega)
    rw [Bool.and_eq_true, beq_iff_eq] at c
    have c1 : 0 < (mnl m (r + 1)).length := by have := c.1; simp [Nat.blt] at this; omega
    obtain ⟨j, hj⟩ : ∃ j, j = (mnl m (r + 1)).length - 1 := ⟨_, rfl⟩
    have c2 := c.2
    rw [← hj] at c2
    have hv : Spn FM (RowsOf k R) (mrow (mnl m (r + 1)) (2 ^ m) j) := (hs _).2 (spn_mem F (mrow_el _ _ _) ⟨j, by omega, rfl⟩)
    have hco := rre_coord F hR hv
    rw [← enw_lc] at hco
    refine wcn_has F (m := fun i => if i < k then mrow (mnl m (r + 1)) (2 ^ m) j (p i) else 0) ?_ ?_ ?_
    · intro i
      dsimp only
      split
      · exact mrow_el _ _ _ _
      · exact zero_lt' F
    · intro i hi
      exact if_neg (by omega)
    · rw [← hco]
      unfold wtn
      rw [wgt_ct (2 ^ m) (fun x _ => mrow_el _ _ _ x), ← c2]
      exact wgt_congr _ (fun x hx => if_pos hx)
  · rcases Nat.eq_zero_or_pos (wcn FM R (2 ^ m) k (FM.q ^ k) i) with e | e
    · exact e
    · exfalso
      have e2 : (0 : Int) < wsum FM.q k (fun m' => bi (decide (wtn (enw FM R m' k) (2 ^ m) = i))) := by rw [← wcn_wsum F]; omega
      have e3 : wsum FM.q k (fun m' => bi (decide (wtn (enw FM R m' k) (2 ^ m) = i))) ≤ wsum FM.q k (fun _ => 0) := wsum_le F k (fun g hg hb => by
        rw [decide_eq_false, bi_f]
        · omega
        intro hw
        have hin := (enw_in F hR g).1
        obtain ⟨g', hg', ev⟩ := spn_wordf ((hs _).1 hin)
        have hne : ∃ t, t < (mnl m (r + 1)).length ∧ g' t = 1 := by
          rcases Classical.em (∃ t, t < (mnl m (r + 1)).length ∧ g' t = 1) with c | c
          · exact c
          · exfalso
            have ez : wordf (mnl m (r + 1)) (2 ^ m) g' (mnl m (r + 1)).length = pnil := funext fun x => by
              unfold wordf pnil
              rw [mwv_congr (g' := fun _ => 0) _ (fun j hj => by
                have := hg' j
                have : g' j ≠ 1 := fun e => c ⟨j, hj, e⟩
                show g' j = 0
                omega), mwv_none]
              split <;> rfl
            rw [ev, ez, wtn_pnil] at hw
            omega
        have hf := wordf_far h1 h hr (g := g') (mnl m (r + 1)).length (Nat.le_refl _) hne
        rw [ev] at hw
        unfold wtn at hw
        rw [wgt_ct (2 ^ m) (fun x _ => wordf_lt _ _ _ _ x), wgt_congr (a := fun x => wordf (mnl m (r + 1)) (2 ^ m) g' (mnl m (r + 1)).length x) (b := fun x => mwv (mnl m (r + 1)) g' x (mnl m (r + 1)).length) _ (fun x hx => if_pos hx)] at hw
        omega)
      rw [wsum_nil] at e3
      omega
end Go.Proofs.Ytmklnjkallhphaa
