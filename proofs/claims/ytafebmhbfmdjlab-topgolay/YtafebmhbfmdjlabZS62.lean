/- Golay's two codes: their reduced rows; each is its own dual; how far their words lie apart, also without a place. -/
import Derived.Test.YtafebmhbfmdjlabZG3
import Derived.Test.YtafebmhbfmdjlabZS47
import Derived.Test.YtafebmhbfmdjlabZI31
import Derived.Test.YtafebmhbfmdjlabZI35
namespace Go.Proofs.Ytafebmhbfmdjlab

/-- Lists of lists, as rows. -/
def lrs (L : List (List Nat)) : Nat → Nat → Nat := fun i => lsf (L.getD i [])
theorem lrs_bd {L : List (List Nat)} {n : Nat} (h : (L.all fun l => l.length == n) = true) (i : Nat) : Bd n (lrs L i) := fun j hj => by
  unfold lrs
  by_cases e : i < L.length
  · have hm : L.getD i [] ∈ L := by simp [List.getD_eq_getElem?_getD, e]
    have := eq_of_beq (List.all_eq_true.1 h _ hm)
    exact lsf_bd _ j (by omega)
  · have : L.getD i [] = [] := by rw [List.getD_eq_getElem?_getD, List.getElem?_eq_none (by omega)]; rfl
    rw [this]
    exact lsf_bd [] j (Nat.zero_le _)
theorem enw_bdn {D : FD} (F : Fld D) {n : Nat} {R : Nat → Nat → Nat} {z : Nat → Nat} : ∀ k, (∀ i, i < k → Bd n (R i)) → Bd n (enw D R z k)
  | 0, _ => fun _ _ => rfl
  | k + 1, h => fun j hj => by
    show D.ad (enw D R z k j) (D.mul (z k) (R k j)) = 0
    rw [enw_bdn F k (fun i hi => h i (by omega)) j hj, h k (by omega) j hj, mul0 F, ad_zero F (zero_lt' F)]
/-- What is asked of rows, of what they are made of, and of how. -/
def golB (D : FD) (n K : Nat) (M R C : Nat → Nat → Nat) : Bool :=
  ((List.range K).all fun i => (List.range n).all fun j => (M i j == enw D R (fun t => M i t) K j) && (R i j == enw D M (C i) K j) && decide (R i j < D.q) && decide (M i j < D.q)) &&
  ((List.range K).all fun i => (List.range K).all fun j => (R i j == if i = j then 1 else 0) && (dot D (R i) (R j) n == 0))
theorem gol_rre {D : FD} (F : Fld D) {n K : Nat} {M R C : Nat → Nat → Nat} (h : golB D n K M R C = true) (hn : K ≤ n) (hM : ∀ i, i < K → Bd n (M i)) (hR : ∀ i, i < K → Bd n (R i)) :
    RRE D n K R (fun i => i) ∧ Red D n K M K R ∧ ∀ i j, i < K → j < K → dot D (R i) (R j) n = 0 := by
  unfold golB at h
  rw [Bool.and_eq_true] at h
  have a : ∀ i, i < K → ∀ j, j < n → M i j = enw D R (fun t => M i t) K j ∧ R i j = enw D M (C i) K j ∧ R i j < D.q ∧ M i j < D.q := fun i hi j hj => by
    have := List.all_eq_true.1 (List.all_eq_true.1 h.1 i (List.mem_range.2 hi)) j (List.mem_range.2 hj)
    simp only [Bool.and_eq_true, beq_iff_eq, decide_eq_true_eq] at this
    exact ⟨this.1.1.1, this.1.1.2, this.1.2, this.2⟩
  have b : ∀ i, i < K → ∀ j, j < K → R i j = (if i = j then 1 else 0) ∧ dot D (R i) (R j) n = 0 := fun i hi j hj => by
    have := List.all_eq_true.1 (List.all_eq_true.1 h.2 i (List.mem_range.2 hi)) j (List.mem_range.2 hj)
    simp only [Bool.and_eq_true, beq_iff_eq] at this
    exact this
  have eR : ∀ i, i < K → El D (R i) := fun i hi j => by
    by_cases c : j < n
    · exact (a i hi j c).2.2.1
    · rw [hR i hi j (by omega)]; exact zero_lt' F
  have eM : ∀ i, i < K → El D (M i) := fun i hi j => by
    by_cases c : j < n
    · exact (a i hi j c).2.2.2
    · rw [hM i hi j (by omega)]; exact zero_lt' F
  have r : RRE D n K R (fun i => i) := ⟨eR, hR, fun i hi => by omega, fun i j hij _ => hij, fun i hi => by have := (b i hi i hi).1; rw [if_pos rfl] at this; exact this, fun i j hi hj hne => by have := (b i hi j hj).1; rw [if_neg hne] at this; exact this, fun i c hi hc => by have := (b i hi c (by omega)).1; rw [if_neg (by omega)] at this; exact this⟩
  refine ⟨r, ⟨_, r, fun v => ⟨fun hv => spn_le F (fun u hu => ?_) hv, fun hv => spn_le F (fun u hu => ?_) hv⟩⟩, fun i j hi hj => (b i hi j hj).2⟩
  · obtain ⟨i, hi, rfl⟩ := hu
    have e : R i = enw D M (C i) K := funext fun j => by
      by_cases c : j < n
      · exact (a i hi j c).2.1
      · rw [hR i hi j (by omega), enw_bdn F K hM j (by omega)]
    rw [e]; exact enw_spn F eM K (Nat.le_refl _)
  · obtain ⟨i, hi, rfl⟩ := hu
    have e : M i = enw D R (fun t => M i t) K := funext fun j => by
      by_cases c : j < n
      · exact (a i hi j c).1
      · rw [hM i hi j (by omega), enw_bdn F K hR j (by omega)]
    rw [e]; exact enw_spn F eR K (Nat.le_refl _)
/-- Rows that make each other 0, half as many as places: a code that is its own dual. -/
theorem self_dual {D : FD} (F : Fld D) {n K k2 : Nat} {R R2 : Nat → Nat → Nat} {p : Nat → Nat} (hr : RRE D n K R p) (ho : ∀ i j, i < K → j < K → dot D (R i) (R j) n = 0) (hn : n = K + K) (hd : Dul D n K R k2 R2) : k2 = K ∧ ∀ i, i < K → R i = R2 i := by
  have c1 := hd.count F (k := K) (R := R) ⟨p, hr, fun _ => Iff.rfl⟩
  have e : k2 = K := by omega
  subst e
  have hi := hd.iff F hr.el
  obtain ⟨_, _, _, p2, _, _, g3, _⟩ := hd
  have hin : ∀ v, Spn D (RowsOf k2 R) v → Spn D (RowsOf k2 R2) v := fun v hv => by
    refine spn_le F (fun u hu => ?_) hv
    obtain ⟨j, hj, rfl⟩ := hu
    exact (hi _).2 ⟨hr.el j hj, hr.bd j hj, fun i hi2 => ho i j hi2 hj⟩
  have := rre_uniq F hr g3 (rre_within F hr g3 hin)
  exact ⟨rfl, fun i hi => (this.2 i hi).2⟩

/-! how far words lie apart -/
/-- A word and a row so often, in a field of a prime. -/
def lad (q s : Nat) : List Nat → List Nat → List Nat
  | a :: l, b :: m => ((a + s * b) % q) :: lad q s l m
  | _, _ => []
theorem lad_at (q s : Nat) : ∀ (l m : List Nat) (j : Nat), l.length = m.length → j < l.length → lsf (lad q s l m) j = (lsf l j + s * lsf m j) % q ∧ (lad q s l m).length = l.length
  | [], _, j, _, h => absurd h (by simp)
  | a :: l, [], j, h, _ => by simp at h
  | a :: l, b :: m, j, h, hj => by
    have hl : l.length = m.length := by simpa using h
    have hlen : (lad q s l m).length = l.length := by
      cases l with
      | nil => cases m <;> rfl
      | cons x t => exact (lad_at q s (x :: t) m 0 hl (by simp)).2
    refine ⟨?_, by show (lad q s l m).length + 1 = l.length + 1; rw [hlen]⟩
    cases j with
    | zero => rfl
    | succ j => exact (lad_at q s l m j hl (by simpa using hj)).1
def lwt : List Nat → Nat
  | [] => 0
  | a :: l => (if a = 0 then 0 else 1) + lwt l
theorem ct_shift (f : Nat → Bool) : ∀ n, ct f (n + 1) = (if f 0 = true then 1 else 0) + ct (fun i => f (i + 1)) n
  | 0 => Nat.add_comm 0 _
  | n + 1 => by
    show ct f (n + 1) + (if f (n + 1) = true then 1 else 0) = _ + (ct (fun i => f (i + 1)) n + if f (n + 1) = true then 1 else 0)
    rw [ct_shift f n]; omega
theorem lwt_is : ∀ l : List Nat, wtn (lsf l) l.length = lwt l
  | [] => rfl
  | a :: l => by
    have h := ct_shift (fun i => !decide (((lsf (a :: l) i : Nat) : Int) = 0)) l.length
    show ct (fun i => !decide (((lsf (a :: l) i : Nat) : Int) = 0)) (l.length + 1) = _
    rw [h]
    have h2 : ct (fun i => !decide (((lsf (a :: l) (i + 1) : Nat) : Int) = 0)) l.length = lwt l := lwt_is l
    rw [h2]
    show (if (!decide (((a : Nat) : Int) = 0)) = true then 1 else 0) + lwt l = (if a = 0 then 0 else 1) + lwt l
    by_cases e : a = 0
    · subst e; rfl
    · rw [if_neg e, if_pos (by rw [decide_eq_false (by omega)]; rfl)]
/-- Have all words of such rows, from one on, so great a weight? -/
def gck (q d : Nat) : List (List Nat) → List Nat → Bool → Bool
  | [], l, b => !b || Nat.ble d (lwt l)
  | r :: rs, l, b => (List.range q).all fun s => gck q d rs (lad q s l r) (b || !Nat.beq s 0)
def lac (q : Nat) (m : Nat → Nat) : List (List Nat) → Nat → List Nat → List Nat
  | [], _, l => l
  | r :: rs, k, l => lac q m rs (k + 1) (lad q (m k) l r)
theorem gck_at {q d : Nat} {m : Nat → Nat} (hm : ∀ i, m i < q) : ∀ rs k l b, gck q d rs l b = true → (b = true ∨ ∃ i, k ≤ i ∧ i < k + rs.length ∧ m i ≠ 0) → d ≤ lwt (lac q m rs k l)
  | [], k, l, b, h, hb => by
    rcases hb with rfl | ⟨i, h1, h2, _⟩
    · simp only [gck, Bool.not_true, Bool.false_or] at h
      exact Nat.le_of_ble_eq_true h
    · simp at h2; omega
  | r :: rs, k, l, b, h, hb => by
    have h1 := List.all_eq_true.1 (show ((List.range q).all fun s => gck q d rs (lad q s l r) (b || !Nat.beq s 0)) = true from h) (m k) (List.mem_range.2 (hm k))
    refine gck_at hm rs (k + 1) _ _ h1 ?_
    rcases hb with rfl | ⟨i, a1, a2, a3⟩
    · exact Or.inl rfl
    · by_cases e : i = k
      · subst e
        refine Or.inl ?_
        have : Nat.beq (m i) 0 = false := by
          cases c : Nat.beq (m i) 0
          · rfl
          · exact absurd (Nat.eq_of_beq_eq_true c) a3
        rw [this]; simp
      · exact Or.inr ⟨i, by omega, by simp at a2; omega, a3⟩
theorem lac_is {D : FD} {L : List (List Nat)} {n : Nat} {m : Nat → Nat} (hn : 0 < n) (hL : (L.all fun l => l.length == n) = true) (ha : ∀ a b, a < D.q → b < D.q → D.ad a b = (a + b) % D.q) (hu : ∀ a b, a < D.q → b < D.q → D.mul a b = a * b % D.q) (F : Fld D) (hm : El D m) (hR : ∀ i, El D (lrs L i)) : ∀ t k l, k + t = L.length → l.length = n → (∀ j, lsf l j = enw D (lrs L) m k j) → (lac D.q m (L.drop k) k l).length = n ∧ ∀ j, lsf (lac D.q m (L.drop k) k l) j = enw D (lrs L) m L.length j
  | 0, k, l, hk, hl, h => by
    have : k = L.length := by omega
    subst this
    rw [List.drop_length]
    exact ⟨hl, h⟩
  | t + 1, k, l, hk, hl, h => by
    have hk2 : k < L.length := by omega
    rw [List.drop_eq_getElem_cons hk2]
    have hg : L.getD k [] = L[k] := by simp [List.getD_eq_getElem?_getD, hk2]
    have hlen : L[k].length = n := eq_of_beq (List.all_eq_true.1 hL _ (List.getElem_mem hk2))
    refine lac_is hn hL ha hu F hm hR t (k + 1) _ (by omega) ?_ (fun j => ?_)
    · rw [(lad_at D.q (m k) l L[k] 0 (by omega) (by omega)).2, hl]
    · show lsf (lad D.q (m k) l L[k]) j = D.ad (enw D (lrs L) m k j) (D.mul (m k) (lrs L k j))
      have e1 : lrs L k = lsf L[k] := by unfold lrs; rw [hg]
      have e2 := hR k j
      rw [← h j, hu _ _ (hm k) e2, ha _ _ (by rw [h j]; exact enw_el F k j) (Nat.mod_lt _ (zero_lt' F)), e1]
      by_cases c : j < n
      · rw [(lad_at D.q (m k) l L[k] j (by omega) (by omega)).1, Nat.add_mod_mod]
      · have b1 : lsf (lad D.q (m k) l L[k]) j = 0 := by
          have := (lad_at D.q (m k) l L[k] 0 (by omega) (by omega)).2
          exact lsf_bd _ j (by omega)
        rw [b1, lsf_bd l j (by omega), lsf_bd L[k] j (by omega)]
        simp
theorem gck_far {D : FD} (F : Fld D) {L : List (List Nat)} {n d : Nat} (hn : 0 < n) (hL : (L.all fun l => l.length == n) = true) (ha : ∀ a b, a < D.q → b < D.q → D.ad a b = (a + b) % D.q) (hu : ∀ a b, a < D.q → b < D.q → D.mul a b = a * b % D.q) (hR : ∀ i, El D (lrs L i)) (hc : gck D.q d L (List.replicate n 0) false = true) : Far D n L.length (lrs L) d := fun m hm hb h0 => by
  obtain ⟨i, hi, hi2⟩ : ∃ i, i < L.length ∧ m i ≠ 0 := Classical.byContradiction fun hno => h0 (funext fun i => by
    by_cases c : i < L.length
    · exact Classical.byContradiction fun h => hno ⟨i, c, h⟩
    · exact hb i (by omega))
  have h1 := gck_at hm L 0 (List.replicate n 0) false hc (Or.inr ⟨i, by omega, by omega, hi2⟩)
  have h2 := lac_is hn hL ha hu F hm hR L.length 0 (List.replicate n 0) (by omega) (by simp) (fun j => by
    show lsf (List.replicate n 0) j = 0
    unfold lsf
    by_cases c : j < n
    · simp [List.getD_eq_getElem?_getD, c]
    · rw [List.getD_eq_getElem?_getD, List.getElem?_eq_none (by simp; omega)]; rfl)
  rw [List.drop_zero] at h2
  rw [← lwt_is, h2.1] at h1
  rw [show enw D (lrs L) m L.length = lsf (lac D.q m L 0 (List.replicate n 0)) from funext fun j => (h2.2 j).symm]
  exact h1
def F2L : List (List Nat) := [[1, 0, 0, 0, 0, 0, 0, 0, 0, 0, 0, 0, 1, 0, 1, 0, 1, 1, 1, 0, 0, 0, 1, 1], [0, 1, 0, 0, 0, 0, 0, 0, 0, 0, 0, 0, 1, 1, 1, 1, 1, 0, 0, 1, 0, 0, 1, 0], [0, 0, 1, 0, 0, 0, 0, 0, 0, 0, 0, 0, 1, 1, 0, 1, 0, 0, 1, 0, 1, 0, 1, 1], [0, 0, 0, 1, 0, 0, 0, 0, 0, 0, 0, 0, 1, 1, 0, 0, 0, 1, 1, 1, 0, 1, 1, 0], [0, 0, 0, 0, 1, 0, 0, 0, 0, 0, 0, 0, 1, 1, 0, 0, 1, 1, 0, 1, 1, 0, 0, 1], [0, 0, 0, 0, 0, 1, 0, 0, 0, 0, 0, 0, 0, 1, 1, 0, 0, 1, 1, 0, 1, 1, 0, 1], [0, 0, 0, 0, 0, 0, 1, 0, 0, 0, 0, 0, 0, 0, 1, 1, 0, 0, 1, 1, 0, 1, 1, 1], [0, 0, 0, 0, 0, 0, 0, 1, 0, 0, 0, 0, 1, 0, 1, 1, 0, 1, 1, 1, 1, 0, 0, 0], [0, 0, 0, 0, 0, 0, 0, 0, 1, 0, 0, 0, 0, 1, 0, 1, 1, 0, 1, 1, 1, 1, 0, 0], [0, 0, 0, 0, 0, 0, 0, 0, 0, 1, 0, 0, 0, 0, 1, 0, 1, 1, 0, 1, 1, 1, 1, 0], [0, 0, 0, 0, 0, 0, 0, 0, 0, 0, 1, 0, 1, 0, 1, 1, 1, 0, 0, 0, 1, 1, 0, 1], [0, 0, 0, 0, 0, 0, 0, 0, 0, 0, 0, 1, 0, 1, 0, 1, 1, 1, 0, 0, 0, 1, 1, 1]]
def F2C : List (List Nat) := [[1, 0, 1, 0, 0, 1, 0, 0, 1, 1, 1, 1], [0, 1, 0, 1, 0, 0, 1, 0, 0, 1, 1, 1], [0, 0, 1, 0, 1, 0, 0, 1, 0, 0, 1, 1], [0, 0, 0, 1, 0, 1, 0, 0, 1, 0, 0, 1], [0, 0, 0, 0, 1, 0, 1, 0, 0, 1, 0, 0], [0, 0, 0, 0, 0, 1, 0, 1, 0, 0, 1, 0], [0, 0, 0, 0, 0, 0, 1, 0, 1, 0, 0, 1], [0, 0, 0, 0, 0, 0, 0, 1, 0, 1, 0, 0], [0, 0, 0, 0, 0, 0, 0, 0, 1, 0, 1, 0], [0, 0, 0, 0, 0, 0, 0, 0, 0, 1, 0, 1], [0, 0, 0, 0, 0, 0, 0, 0, 0, 0, 1, 0], [0, 0, 0, 0, 0, 0, 0, 0, 0, 0, 0, 1]]
def F3L : List (List Nat) := [[1, 0, 0, 0, 0, 0, 2, 0, 1, 2, 1, 2], [0, 1, 0, 0, 0, 0, 1, 2, 2, 2, 1, 0], [0, 0, 1, 0, 0, 0, 1, 1, 1, 0, 1, 1], [0, 0, 0, 1, 0, 0, 1, 1, 0, 2, 2, 2], [0, 0, 0, 0, 1, 0, 2, 1, 2, 2, 0, 1], [0, 0, 0, 0, 0, 1, 0, 2, 1, 2, 2, 1]]
def F3C : List (List Nat) := [[2, 0, 2, 1, 1, 1], [0, 2, 0, 2, 1, 1], [0, 0, 2, 0, 2, 1], [0, 0, 0, 2, 0, 2], [0, 0, 0, 0, 2, 0], [0, 0, 0, 0, 0, 2]]
/-! the two codes -/
def F2M : Nat → Nat → Nat := fun i => xtd F2 23 (psh i F2g)
def F3M : Nat → Nat → Nat := fun i => xtd F3 11 (psh i F3g)
theorem psh_bd6 {g : Nat → Nat} {m n i : Nat} (hg : Bd m g) (h : i + m ≤ n) : Bd n (psh i g) := fun j hj => by
  unfold psh
  rw [if_pos (by omega)]; exact hg _ (by omega)
theorem F2_gol : RRE F2 24 12 (lrs F2L) (fun i => i) ∧ Red F2 24 12 F2M 12 (lrs F2L) ∧ ∀ i j, i < 12 → j < 12 → dot F2 (lrs F2L i) (lrs F2L j) 24 = 0 :=
  gol_rre (fld F2_in) (C := lrs F2C) (by decide +kernel) (by omega) (fun i hi => xtd_bd (psh_bd6 F2g_bd (by omega))) (fun i _ => lrs_bd (by decide +kernel) i)
theorem F3_gol : RRE F3 12 6 (lrs F3L) (fun i => i) ∧ Red F3 12 6 F3M 6 (lrs F3L) ∧ ∀ i j, i < 6 → j < 6 → dot F3 (lrs F3L i) (lrs F3L j) 12 = 0 :=
  gol_rre (fld F3_in) (C := lrs F3C) (by decide +kernel) (by omega) (fun i hi => xtd_bd (psh_bd6 F3g_bd (by omega))) (fun i _ => lrs_bd (by decide +kernel) i)
theorem F2_ad6 {a b : Nat} (ha : a < F2.q) (hb : b < F2.q) : F2.ad a b = (a + b) % F2.q := by
  have h : (List.range 2).all (fun a => (List.range 2).all fun b => F2.ad a b == (a + b) % 2) = true := by decide +kernel
  exact eq_of_beq (List.all_eq_true.1 (List.all_eq_true.1 h a (List.mem_range.2 ha)) b (List.mem_range.2 hb))
theorem F2_mu6 {a b : Nat} (ha : a < F2.q) (hb : b < F2.q) : F2.mul a b = a * b % F2.q := by
  have h : (List.range 2).all (fun a => (List.range 2).all fun b => F2.mul a b == a * b % 2) = true := by decide +kernel
  exact eq_of_beq (List.all_eq_true.1 (List.all_eq_true.1 h a (List.mem_range.2 ha)) b (List.mem_range.2 hb))
theorem F3_ad6 {a b : Nat} (ha : a < F3.q) (hb : b < F3.q) : F3.ad a b = (a + b) % F3.q := by
  have h : (List.range 3).all (fun a => (List.range 3).all fun b => F3.ad a b == (a + b) % 3) = true := by decide +kernel
  exact eq_of_beq (List.all_eq_true.1 (List.all_eq_true.1 h a (List.mem_range.2 ha)) b (List.mem_range.2 hb))
theorem F3_mu6 {a b : Nat} (ha : a < F3.q) (hb : b < F3.q) : F3.mul a b = a * b % F3.q := by
  have h : (List.range 3).all (fun a => (List.range 3).all fun b => F3.mul a b == a * b % 3) = true := by decide +kernel
  exact eq_of_beq (List.all_eq_true.1 (List.all_eq_true.1 h a (List.mem_range.2 ha)) b (List.mem_range.2 hb))
theorem lrs_el {D : FD} (F : Fld D) {L : List (List Nat)} (h : (L.all fun l => l.all fun x => decide (x < D.q)) = true) (i : Nat) : El D (lrs L i) := by
  unfold lrs
  refine lsf_el ?_
  rw [decide_eq_true (zero_lt' F), Bool.true_and]
  by_cases e : i < L.length
  · have hm : L.getD i [] ∈ L := by simp [List.getD_eq_getElem?_getD, e]
    exact List.all_eq_true.1 h _ hm
  · have : L.getD i [] = [] := by rw [List.getD_eq_getElem?_getD, List.getElem?_eq_none (by omega)]; rfl
    rw [this]; rfl
theorem F2_far : Far F2 24 12 (lrs F2L) 8 := gck_far (fld F2_in) (L := F2L) (by omega) (by decide +kernel) (fun _ _ => F2_ad6) (fun _ _ => F2_mu6) (lrs_el (fld F2_in) (by decide +kernel)) (by decide +kernel)
theorem F3_far : Far F3 12 6 (lrs F3L) 6 := gck_far (fld F3_in) (L := F3L) (by omega) (by decide +kernel) (fun _ _ => F3_ad6) (fun _ _ => F3_mu6) (lrs_el (fld F3_in) (by decide +kernel)) (by decide +kernel)

/-! without a place -/
theorem wtn_wo {v : Nat → Nat} {a n : Nat} (ha : a < n) : wtn v n ≤ wtn (wo a v) (n - 1) + 1 := by
  have h0 : ∀ m, m ≤ a → wtn (wo a v) m = wtn v m := fun m hm => by
    unfold wtn
    exact ct_same m (fun j hj => by unfold wo; rw [if_pos (by omega)])
  have h1 : ∀ d, wtn v (a + d + 1) ≤ wtn (wo a v) (a + d) + 1 := fun d => by
    induction d with
    | zero =>
      show wtn v a + (if (!decide (((v a : Nat) : Int) = 0)) = true then 1 else 0) ≤ wtn (wo a v) a + 1
      rw [h0 a (Nat.le_refl _)]
      have : (if (!decide (((v a : Nat) : Int) = 0)) = true then 1 else 0) ≤ 1 := by split <;> omega
      omega
    | succ d ih =>
      show wtn v (a + d + 1) + (if (!decide (((v (a + d + 1) : Nat) : Int) = 0)) = true then 1 else 0) ≤ wtn (wo a v) (a + d) + (if (!decide (((wo a v (a + d) : Nat) : Int) = 0)) = true then 1 else 0) + 1
      have : wo a v (a + d) = v (a + d + 1) := by unfold wo; rw [if_neg (by omega)]
      rw [this]; omega
  have := h1 (n - 1 - a)
  rw [show a + (n - 1 - a) + 1 = n by omega, show a + (n - 1 - a) = n - 1 by omega] at this
  exact this
theorem wo_sub (D : FD) (a : Nat) (u v : Nat → Nat) : wo a (psub D u v) = psub D (wo a u) (wo a v) := by
  funext j
  show (if j < a then psub D u v j else psub D u v (j + 1)) = D.sb (if j < a then u j else u (j + 1)) (if j < a then v j else v (j + 1))
  by_cases c : j < a
  · rw [if_pos c, if_pos c, if_pos c]; rfl
  · rw [if_neg c, if_neg c, if_neg c]; rfl
/-- A code whose words lie apart, without a place: as many rows, and its words lie apart by one less. -/
theorem far_wo {D : FD} (hD : D ∈ fieldsL) {n K k d a : Nat} {R R' : Nat → Nat → Nat} {p : Nat → Nat} (h : RRE D n K R p) (hf : Far D n K R d) (hd : 2 ≤ d) (ha : a < n) (hr : Red D (n - 1) K (fun i => wo a (R i)) k R') : k = K ∧ Far D (n - 1) k R' (d - 1) := by
  have F := fld hD
  have hfree : ∀ j, j < K → ¬ Spn D (RowsOf j fun i => wo a (R i)) (wo a (R j)) := fun j hj hs => by
    obtain ⟨v, hv, e⟩ := (spn_wo F (fun i hi => h.el i (by omega)) _).1 hs
    have hv0 : v (p j) = 0 := by
      refine spn_ind (Q := fun v => v (p j) = 0) rfl (fun u v hu hv => ?_) (fun s v hv => ?_) (fun u hu => ?_) hv
      · show D.ad (u (p j)) (v (p j)) = 0
        rw [hu, hv, ad_zero F (zero_lt' F)]
      · show D.mul s (v (p j)) = 0
        rw [hv, mul0 F]
      · obtain ⟨i, hi, rfl⟩ := hu
        exact h.zero i j (by omega) hj (by omega)
    have hvK : Spn D (RowsOf K R) v := spn_le F (fun u hu => by
      obtain ⟨i, hi, rfl⟩ := hu
      exact spn_mem F (h.el i (by omega)) ⟨i, by omega, rfl⟩) hv
    have ev : El D v := spn_ind (Q := El D) (el_nil F) (fun _ _ => el_add F) (fun s v _ => el_scale F s v) (fun u hu => by
      obtain ⟨i, hi, rfl⟩ := hu
      exact h.el i (by omega)) hv
    have hx : psub D (R j) v ≠ pnil := fun e0 => by
      have := congrFun e0 (p j)
      have e3 : D.sb (R j (p j)) (v (p j)) = 0 := this
      have := sb_eq_zero F (h.el j hj _) (ev _) e3
      rw [h.one j hj, hv0] at this
      cases this
    have h1 := far_spn F h hf (v := psub D (R j) v) (fun i => sb_lt F (h.el j hj i) (ev i)) (spn_sub F (spn_mem F (h.el j hj) ⟨j, hj, rfl⟩) hvK) hx
    have h2 := wtn_wo (v := psub D (R j) v) ha
    have e4 : wo a (psub D (R j) v) = pnil := by
      rw [wo_sub, e]
      funext i
      exact sb_self F (wo_el ev i)
    rw [e4, wtn_pnil] at h2
    omega
  obtain ⟨R2, p2, g1, g2⟩ := rre_full hD (n := n - 1) (M := fun i => wo a (R i)) K (fun i hi => wo_el (h.el i hi)) (fun i hi => wo_bd ha (h.bd i hi)) hfree
  have hk : k = K := (Red.uniq F hr ⟨p2, g1, g2⟩ (fun _ => Iff.rfl)).1
  refine ⟨hk, fun m hm hb h0 => ?_⟩
  obtain ⟨p', g3, g4⟩ := hr
  have hin := (enw_in F g3 m).1
  obtain ⟨v, hv, e⟩ := (spn_wo F h.el _).1 ((g4 _).1 hin)
  have ev : El D v := spn_ind (Q := El D) (el_nil F) (fun _ _ => el_add F) (fun s v _ => el_scale F s v) (fun u hu => by
    obtain ⟨i, hi, rfl⟩ := hu
    exact h.el i hi) hv
  have hv0 : v ≠ pnil := fun e0 => h0 (enw_wt0 F g3 hm hb (by rw [e, e0, wo_nil, wtn_pnil]))
  have h1 := far_spn F h hf ev hv hv0
  have h2 := wtn_wo (v := v) ha
  rw [e]
  omega
/-- No word weighs less, but nought. -/
theorem far_wcn {D : FD} (F : Fld D) {n k d x : Nat} {R : Nat → Nat → Nat} (hf : Far D n k R d) (h0 : 0 < x) (hx : x < d) : wcn D R n k (D.q ^ k) x = 0 := by
  have h := wcn_wsum F R n k x
  rw [wsum_congr F k (g := fun _ => 0) (fun m hm hb => by
    by_cases e : m = pnil
    · subst e
      rw [enw_pnil F, wtn_pnil, decide_eq_false (by omega), bi_f]
    · have := hf m hm hb e
      rw [decide_eq_false (by omega), bi_f]), wsum_nil] at h
  omega
/-- The nearest word to one that is few places off is it. -/
theorem far_near {D : FD} (F : Fld D) {n k d r : Nat} {R : Nat → Nat → Nat} {p m : Nat → Nat} {y : Nat → Nat} (h : RRE D n k R p) (hf : Far D n k R d) (hd : 2 * r < d) (hm : El D m) (hb : Bd k m) (hc : dsg y (enw D R m k) n ≤ r) {m' : Nat → Nat} (hm' : El D m') (hb' : Bd k m') (hle : dsg y (enw D R m' k) n ≤ dsg y (enw D R m k) n) : m' = m :=
  far_msg F h hf hm' hb' hm hb (by have := dsg_tri (enw D R m' k) y (enw D R m k) n; omega)
end Go.Proofs.Ytafebmhbfmdjlab
