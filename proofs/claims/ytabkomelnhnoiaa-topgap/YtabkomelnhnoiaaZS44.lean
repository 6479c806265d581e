/- Texts of ours, one behind the other: S44 KI24. -/
import Derived.Test.YtabkomelnhnoiaaZKI15
import Derived.Test.YtabkomelnhnoiaaZKI20
/- How far apart words are: a metric; words of one sum are four steps apart. -/
namespace Go.Proofs.Ytabkomelnhnoiaa

/-- A step more or less at one end changes it by one at most. -/
theorem lvd_lip (x y : Nat → Int) : ∀ i j, (lvd x y (i + 1) j ≤ lvd x y i j + 1 ∧ lvd x y i j ≤ lvd x y (i + 1) j + 1) ∧ (lvd x y i (j + 1) ≤ lvd x y i j + 1 ∧ lvd x y i j ≤ lvd x y i (j + 1) + 1)
  | 0, 0 => by rw [lvd_side, lvd_front, lvd_front]; omega
  | i + 1, 0 => by
    have h := lvd_lip x y i 0
    rw [lvd_side, lvd_side] at *
    have e := lvd_step x y i 0
    rw [lvd_side, lvd_side] at e
    have e1 := h.2
    refine ⟨by omega, ?_⟩
    rw [e]
    split
    · omega
    · omega
  | 0, j + 1 => by
    have h := lvd_lip x y 0 j
    rw [lvd_front, lvd_front] at *
    have e := lvd_step x y 0 j
    rw [lvd_front, lvd_front] at e
    have e1 := h.1
    refine ⟨?_, by omega⟩
    rw [e]
    split
    · omega
    · omega
  | i + 1, j + 1 => by
    have h1 := lvd_lip x y (i + 1) j
    have h2 := lvd_lip x y i (j + 1)
    have ea := lvd_step x y (i + 1) j
    have eb := lvd_step x y i (j + 1)
    constructor
    · rw [ea]
      split
      · omega
      · omega
    · rw [eb]
      split
      · omega
      · omega
/-- The steps are even or odd as the lengths together are. -/
theorem lvd_par (x y : Nat → Int) : ∀ i j, lvd x y i j % 2 = (i + j) % 2
  | 0, j => by rw [lvd_front]; omega
  | i + 1, 0 => by rw [lvd_side]
  | i + 1, j + 1 => by
    have h0 := lvd_par x y i j
    have h1 := lvd_par x y (i + 1) j
    have h2 := lvd_par x y i (j + 1)
    rw [lvd_step]
    split
    · omega
    · rcases Nat.le_total (lvd x y i (j + 1)) (lvd x y (i + 1) j) with h | h
      · rw [Nat.min_eq_left h]; omega
      · rw [Nat.min_eq_right h]; omega
theorem lvd_least (x y : Nat → Int) : ∀ i j, i ≤ lvd x y i j + j ∧ j ≤ lvd x y i j + i
  | 0, j => by rw [lvd_front]; omega
  | i + 1, 0 => by rw [lvd_side]; omega
  | i + 1, j + 1 => by
    have h0 := lvd_least x y i j
    have h1 := lvd_least x y (i + 1) j
    have h2 := lvd_least x y i (j + 1)
    rw [lvd_step]
    split
    · omega
    · omega
/-- No way round is shorter. -/
theorem lvd_tri (x y z : Nat → Int) : ∀ s i j k, i + j + k ≤ s → lvd x z i k ≤ lvd x y i j + lvd y z j k
  | 0, i, j, k, h => by
    rw [show i = 0 by omega, show k = 0 by omega, lvd_front]; omega
  | s + 1, i, j, k, h => by
    have tri := lvd_tri x y z s
    cases i with
    | zero =>
      have h1 := lvd_least y z j k
      rw [lvd_front, lvd_front]; omega
    | succ i =>
      cases k with
      | zero =>
        have h1 := lvd_least x y (i + 1) j
        rw [lvd_side, lvd_side]; omega
      | succ k =>
        cases j with
        | zero =>
          rw [lvd_side, lvd_front]
          have := lvd_few x z (i + 1) (k + 1)
          omega
        | succ j =>
          have la := (lvd_lip x z i (k + 1)).1
          have lb := (lvd_lip x z (i + 1) k).2
          have t1 := tri i (j + 1) (k + 1) (by omega)
          have t2 := tri (i + 1) j (k + 1) (by omega)
          have t3 := tri (i + 1) (j + 1) k (by omega)
          have t4 := tri (i + 1) j k (by omega)
          have t5 := tri i j k (by omega)
          have t6 := tri i j (k + 1) (by omega)
          have e1 := lvd_step x y i j
          have e2 := lvd_step y z j k
          have e3 := lvd_step x z i k
          by_cases c1 : x i = y j
          · rw [if_pos c1] at e1
            by_cases c2 : y j = z k
            · rw [if_pos c2] at e2
              rw [if_pos (c1.trans c2)] at e3
              omega
            · rw [if_neg c2] at e2
              omega
          · rw [if_neg c1] at e1
            by_cases c2 : y j = z k
            · rw [if_pos c2] at e2
              omega
            · rw [if_neg c2] at e2
              omega
/-- No step: the same words. -/
theorem lvd_zero (x y : Nat → Int) : ∀ i, lvd x y i i = 0 → ∀ t, t < i → x t = y t
  | 0, _, t, ht => absurd ht (by omega)
  | i + 1, h, t, ht => by
    rw [lvd_step] at h
    by_cases c : x i = y i
    · rw [if_pos c] at h
      by_cases e : t = i
      · rw [e]; exact c
      · exact lvd_zero x y i h t (by omega)
    · rw [if_neg c] at h; omega
/-- One step: a bit is lost. -/
theorem lvd_one (x y : Nat → Int) : ∀ i, lvd x y (i + 1) i ≤ 1 → ∃ a, a ≤ i ∧ (∀ t, t < a → x t = y t) ∧ ∀ t, a ≤ t → t < i → x (t + 1) = y t
  | 0, _ => ⟨0, Nat.le_refl _, fun t ht => absurd ht (by omega), fun t _ ht => absurd ht (by omega)⟩
  | i + 1, h => by
    rw [lvd_step] at h
    by_cases c : x (i + 1) = y i
    · rw [if_pos c] at h
      obtain ⟨a, h1, h2, h3⟩ := lvd_one x y i h
      refine ⟨a, by omega, h2, fun t ht1 ht2 => ?_⟩
      by_cases e : t = i
      · rw [e]; exact c
      · exact h3 t ht1 (by omega)
    · rw [if_neg c] at h
      have hp := lvd_least x y (i + 1 + 1) i
      have h0 : lvd x y (i + 1) (i + 1) = 0 := by omega
      exact ⟨i + 1, Nat.le_refl _, fun t ht => lvd_zero x y (i + 1) h0 t (by omega), fun t ht1 ht2 => absurd ht2 (by omega)⟩
theorem lvd_sym (x y : Nat → Int) : ∀ i j, lvd x y i j = lvd y x j i
  | 0, j => by rw [lvd_front, lvd_side]
  | i + 1, 0 => by rw [lvd_front, lvd_side]
  | i + 1, j + 1 => by
    rw [lvd_step, lvd_step, lvd_sym x y i j, lvd_sym x y i (j + 1), lvd_sym x y (i + 1) j]
    by_cases c : x i = y j
    · rw [if_pos c, if_pos c.symm]
    · rw [if_neg c, if_neg (fun e => c e.symm), Nat.min_comm]
/-- Two steps, words of one length: a bit is lost of each, and they are the same. -/
theorem lvd_two (x y : Nat → Int) : ∀ i, lvd x y (i + 1) (i + 1) ≤ 2 → ∃ a b, a ≤ i ∧ b ≤ i ∧ ∀ t, t < i → (if t < a then x t else x (t + 1)) = (if t < b then y t else y (t + 1))
  | 0, _ => ⟨0, 0, Nat.le_refl _, Nat.le_refl _, fun t ht => absurd ht (by omega)⟩
  | i + 1, h => by
    rw [lvd_step] at h
    by_cases c : x (i + 1) = y (i + 1)
    · rw [if_pos c] at h
      obtain ⟨a, b, h1, h2, h3⟩ := lvd_two x y i h
      refine ⟨a, b, by omega, by omega, fun t ht => ?_⟩
      by_cases e : t = i
      · rw [e, if_neg (by omega), if_neg (by omega)]; exact c
      · exact h3 t (by omega)
    · rw [if_neg c] at h
      rcases Nat.le_total (lvd x y (i + 1) (i + 1 + 1)) (lvd x y (i + 1 + 1) (i + 1)) with hm | hm
      · rw [Nat.min_eq_left hm] at h
        obtain ⟨b, h1, h2, h3⟩ := lvd_one y x (i + 1) (by rw [lvd_sym]; omega)
        refine ⟨i + 1, b, Nat.le_refl _, h1, fun t ht => ?_⟩
        rw [if_pos ht]
        by_cases e : t < b
        · rw [if_pos e]; exact (h2 t e).symm
        · rw [if_neg e]; exact (h3 t (by omega) ht).symm
      · rw [Nat.min_eq_right hm] at h
        obtain ⟨a, h1, h2, h3⟩ := lvd_one x y (i + 1) (by omega)
        refine ⟨a, i + 1, h1, Nat.le_refl _, fun t ht => ?_⟩
        rw [if_pos ht]
        by_cases e : t < a
        · rw [if_pos e]; exact h2 t e
        · rw [if_neg e]; exact h3 t (by omega) ht
/-- Words of one sum are four steps apart, or the same. -/
theorem lvd_four {n a : Nat} {c d : Nat → Nat} (hn : 1 ≤ n) (hc : ∀ j, c j ≤ 1) (hd : ∀ j, d j ≤ 1) (sc : psm c n % (n + 1) = a) (sd : psm d n % (n + 1) = a) (h : lvd (fun j => ((c j : Nat) : Int)) (fun j => ((d j : Nat) : Int)) n n < 4) : ∀ j, j < n → c j = d j := by
  have hp := lvd_par (fun j => ((c j : Nat) : Int)) (fun j => ((d j : Nat) : Int)) n n
  have h2 : lvd (fun j => ((c j : Nat) : Int)) (fun j => ((d j : Nat) : Int)) n n ≤ 2 := by omega
  obtain ⟨m, rfl⟩ : ∃ m, n = m + 1 := ⟨n - 1, by omega⟩
  obtain ⟨p, q, hp1, hq1, hpq⟩ := lvd_two _ _ m h2
  have hwo : ∀ t, t < m → wo p c t = wo q d t := fun t ht => by
    have := hpq t ht
    unfold wo
    by_cases e1 : t < p
    · rw [if_pos e1] at this ⊢
      by_cases e2 : t < q
      · rw [if_pos e2] at this ⊢; omega
      · rw [if_neg e2] at this ⊢; omega
    · rw [if_neg e1] at this ⊢
      by_cases e2 : t < q
      · rw [if_pos e2] at this ⊢; omega
      · rw [if_neg e2] at this ⊢; omega
  have hu : ∀ j, wo p c j ≤ 1 := fun j => by unfold wo; split <;> exact hc _
  have e1 : ∀ j, j < m + 1 → wib q (d q) (wo p c) j = d j := fun j hj => by
    have : wib q (d q) (wo q d) j = d j := by rw [wib_wo]
    rw [← this]
    exact wib_congr (n := m) hwo (by omega) hq1
  have hs : psm (wib p (c p) (wo p c)) (m + 1) % (m + 2) = psm (wib q (d q) (wo p c)) (m + 1) % (m + 2) := by
    rw [psm_congr (m + 1) e1, wib_wo]; exact sc.trans sd.symm
  have := ins_one hu hp1 hq1 (hc p) (hd q) hs
  rw [wib_wo] at this
  intro j hj
  rw [this]; exact e1 j hj
/-- Each word has one sum: all lists together are all words. -/
def wdS (n k : Nat) : Nat → Nat
  | 0 => 0
  | i + 1 => wdS n k i + (wdL n i k).length
theorem wdS_step (n k : Nat) : ∀ i, wdS n (k + 1) i = wdS n k i + if psm (dgs 2 n k) n % (n + 1) < i then 1 else 0
  | 0 => rfl
  | i + 1 => by
    show wdS n (k + 1) i + (wdL n i k ++ if psm (dgs 2 n k) n % (n + 1) = i then [dgs 2 n k] else []).length = wdS n k i + (wdL n i k).length + _
    rw [wdS_step n k i, List.length_append]
    by_cases e : psm (dgs 2 n k) n % (n + 1) = i
    · rw [if_pos e, if_neg (by omega), if_pos (by omega)]
      show _ + 0 + (_ + 1) = _; omega
    · rw [if_neg e]
      by_cases e2 : psm (dgs 2 n k) n % (n + 1) < i
      · rw [if_pos e2, if_pos (by omega)]
        show _ + 1 + (_ + 0) = _; omega
      · rw [if_neg e2, if_neg (by omega)]
        show _ + 0 + (_ + 0) = _; omega
theorem wdS_all (n : Nat) : ∀ k, wdS n k (n + 1) = k
  | 0 => by
    have : ∀ i, wdS n 0 i = 0 := fun i => by
      refine Nat.rec rfl (fun i ih => ?_) i
      show wdS n 0 i + 0 = 0
      rw [ih]
    exact this _
  | k + 1 => by
    rw [wdS_step, wdS_all n k, if_pos (Nat.mod_lt _ (by omega))]
end Go.Proofs.Ytabkomelnhnoiaa

/- TopGap: what Mend, Steps and Ball tell of a word of Varshamov and Tenengolts. -/
namespace Go.Proofs.Ytabkomelnhnoiaa
open Go.RowKit Go.Sort

/-- If a word of the sum may have become f, then Mend tells it. -/
theorem MdP.found {n a l : Nat} {f c : Nat → Nat} {v : Value} {ok : Bool} {w : World} (h : MdP n a (snL n l f) v ok w) (hn1 : 1 ≤ n) (hf : ∀ j, f j ≤ 1) (hc : ∀ j, c j ≤ 1) (hs : psm c n % (n + 1) = a) (hr : relW n l f c) : ok = true ∧ KI v (wz n c) w := by
  obtain ⟨d, hd, he⟩ := rel_sent hn1 hc hr
  have hsd : psm d n % (n + 1) = a := by rw [psm_congr n (wz_eq.1 he)]; exact hs
  rcases h with ⟨e, c', hc', hs', hk⟩ | ⟨e, _, hno⟩
  · have := sent_one hf hc' hd hs' hsd
    subst this
    exact ⟨e, by rw [← he]; exact hk⟩
  · exact absurd hsd (hno d hd)
theorem rel_less {n t : Nat} {c : Nat → Nat} (ht : t < n) : relW n (n - 1) (wo t c) c := Or.inr (Or.inl ⟨by omega, wo t c, (lsL_mem n).2 ⟨t, ht, rfl⟩, rfl⟩)
theorem rel_more {n t b : Nat} {c : Nat → Nat} (ht : t ≤ n) : relW n (n + 1) (wib t b c) c := Or.inr (Or.inr ⟨rfl, wo t (wib t b c), (lsL_mem (n + 1)).2 ⟨t, by omega, rfl⟩, by rw [wo_wib]; rfl⟩)
theorem wo_bits {t : Nat} {c : Nat → Nat} (hc : ∀ j, c j ≤ 1) (j : Nat) : wo t c j ≤ 1 := by unfold wo; split <;> exact hc _
theorem wib_bits {t b : Nat} {c : Nat → Nat} (hb : b ≤ 1) (hc : ∀ j, c j ≤ 1) (j : Nat) : wib t b c j ≤ 1 := by
  unfold wib
  split
  · exact hc _
  · split
    · exact hb
    · exact hc _
theorem gt_all {p : Int → Bool} {z : Nat → Int} : ∀ n, (∀ j, j < n → p (z j) = true) → allP p z n = true
  | 0, _ => rfl
  | n + 1, h => by
    show (allP p z n && p (z n)) = true
    rw [gt_all n (fun j hj => h j (by omega)), h n (by omega)]; rfl
theorem allP_bits {n : Nat} {c : Nat → Nat} (hc : ∀ j, c j ≤ 1) (hn : n ≤ 13) : gwchk n (fun j => ((c j : Nat) : Int)) = 0 := by
  unfold gwchk
  rw [if_neg (by omega), if_pos]
  exact gt_all n fun j _ => decide_eq_true (by have := hc j; omega)
/-- As many words come of one as it has runs. -/
theorem BlR.len {l : Nat} {f : Nat → Nat} {v : Value} {w : World} (h : BlR l f v w) (hf : ∀ j, f j ≤ 1) : ∃ ao cap, v = .slice ao (srL f l).length cap := by
  obtain ⟨N, h1, h2, _, ao, cap, e, _⟩ := h
  have hp := List.mergeSort_perm ((srL f l).map fun c => dnum 2 c (l - 1)) (fun a b => decide (a ≤ b))
  have hs : List.Pairwise (fun a b => a ≤ b) (((srL f l).map fun c => dnum 2 c (l - 1)).mergeSort fun a b => decide (a ≤ b)) :=
    (List.pairwise_mergeSort (le := fun a b => decide (a ≤ b)) (fun a b c h1 h2 => decide_eq_true (Nat.le_trans (of_decide_eq_true h1) (of_decide_eq_true h2))) (fun a b => by rcases Nat.le_total a b with h | h <;> simp [h]) _).imp fun h => of_decide_eq_true h
  have hi : Inc _ := pair_lt hs (hp.symm.pairwise (srL_nodup hf l (Nat.le_refl _)) fun h => h.symm)
  have hN := inc_eq h1 hi fun x => by
    rw [h2 x, hp.mem_iff, List.mem_map]
    constructor
    · rintro ⟨i, hi, rfl⟩
      exact ⟨wo i f, (srL_mem l).2 ⟨i, hi, rfl⟩, rfl⟩
    · rintro ⟨c, hc, rfl⟩
      obtain ⟨i, hi, rfl⟩ := (srL_mem l).1 hc
      exact ⟨i, hi, rfl⟩
  refine ⟨ao, cap, ?_⟩
  rw [e, hN, hp.length_eq, List.length_map]
theorem srL_next (f : Nat → Nat) (k : Nat) : (srL f (k + 1)).length = (srL f k).length + if k = 0 ∨ f (k - 1) ≠ f k then 1 else 0 := by
  show (srL f k ++ _).length = _
  rw [List.length_append]
  congr 1
  split <;> rfl
end Go.Proofs.Ytabkomelnhnoiaa
