/- Plain mathematics of Sudan's sum, second part: the curve of a message that agrees at t places is nought. No Go text here. -/
import Derived.Test.YtcgmllamiaflcaaZI4
import Derived.Test.YtcgmllamiaflcaaZS24
namespace Go.Proofs.Ytcgmllamiaflcaa
open Go.RowKit Go.Sort

theorem gz_ct (p s : Nat → Nat) (j : Nat) : ∀ a, (gz p s a j).length = ct (fun b => decide (p b = j)) a
  | 0 => rfl
  | a + 1 => by
    have ih := gz_ct p s j a
    show (if j = p a then gz p s a j ++ [((s a : Nat) : Int)] else gz p s a j).length = ct (fun b => decide (p b = j)) a + if decide (p a = j) = true then 1 else 0
    by_cases e : j = p a
    · rw [if_pos e, if_pos (decide_eq_true e.symm), List.length_append, ih]; rfl
    · rw [if_neg e, if_neg (by rw [decide_eq_true_iff]; exact fun h => e h.symm), ih]; rfl
theorem ct_add (p : Nat → Bool) (m : Nat) : ∀ i, ct p (m + i) = ct p m + ct (fun b => p (m + b)) i
  | 0 => rfl
  | i + 1 => by
    show ct p (m + i) + (if p (m + i) = true then 1 else 0) = ct p m + (ct (fun b => p (m + b)) i + if p (m + i) = true then 1 else 0)
    rw [ct_add p m i]; omega
theorem ct_all {p : Nat → Bool} : ∀ n, (∀ i, i < n → p i = true) → ct p n = n
  | 0, _ => rfl
  | n + 1, h => by
    show ct p n + (if p n = true then 1 else 0) = n + 1
    rw [ct_all n (fun i hi => h i (by omega)), if_pos (h n (by omega))]
theorem ct_same {p p' : Nat → Bool} : ∀ n, (∀ i, i < n → p i = p' i) → ct p n = ct p' n
  | 0, _ => rfl
  | n + 1, h => by
    show ct p n + (if p n = true then 1 else 0) = ct p' n + if p' n = true then 1 else 0
    rw [ct_same n (fun i hi => h i (by omega)), h n (by omega)]
theorem pxf_app {l m : List (Nat × Nat)} {a : Nat} (h : a < l.length) : pxf (l ++ m) a = pxf l a := by
  unfold pxf
  rw [List.getD_eq_getElem?_getD, List.getD_eq_getElem?_getD, List.getElem?_append_left h]
theorem pxf_row {l : List (Nat × Nat)} {m j i : Nat} (h : i < m) : pxf (l ++ (List.range m).map fun i => (i, j)) (l.length + i) = i := by
  unfold pxf
  rw [List.getD_eq_getElem?_getD, List.getElem?_append_right (by omega), Nat.add_sub_cancel_left, List.getElem?_map, List.getElem?_range h]
  rfl
/-- The power of x is how many of its power of y stand ahead. -/
theorem pro_px {K t : Nat} : ∀ j a, a < (pro K t j).length → pxf (pro K t j) a = ct (fun b => decide (pyf (pro K t j) b = pyf (pro K t j) a)) a
  | 0, a, h => absurd h (by simp [pro])
  | j + 1, a, h => by
    obtain ⟨m, hm⟩ : ∃ m, m = min (t - j * K) (64 - (pro K t j).length) := ⟨_, rfl⟩
    have e : pro K t (j + 1) = pro K t j ++ (List.range m).map fun i => (i, j) := by rw [hm]; rfl
    obtain ⟨l, hlp⟩ : ∃ l, l = pro K t j := ⟨_, rfl⟩
    have ih := pro_px (K := K) (t := t) j a
    have hmem : ∀ b, b < l.length → pyf l b < j := fun b hb => by
      rw [hlp] at hb ⊢
      exact (pro_mem j _ (getD_mem hb)).2
    rw [e] at h ⊢
    rw [← hlp] at ih h ⊢
    by_cases ha : a < l.length
    · rw [pxf_app ha, ih ha, pyf_app ha]
      exact ct_same a fun b hb => by rw [pyf_app (show b < l.length by omega)]
    · rw [List.length_append, List.length_map, List.length_range] at h
      obtain ⟨i, rfl⟩ : ∃ i, a = l.length + i := ⟨a - l.length, by omega⟩
      rw [pxf_row (by omega), pyf_row (by omega), ct_add, ct_none l.length (fun b hb => by
        rw [pyf_app hb]
        exact decide_eq_false (by have := hmem b hb; omega)), ct_all i (fun b hb => by
        rw [pyf_row (by omega)]
        exact decide_eq_true rfl)]
      omega
theorem pro_wt {K t : Nat} : ∀ j, ∀ x, x ∈ pro K t j → x.1 + x.2 * K < t
  | 0, x, h => by simp [pro] at h
  | j + 1, x, h => by
    have h : x ∈ pro K t j ++ (List.range (min (t - j * K) (64 - (pro K t j).length))).map fun i => (i, j) := h
    rcases List.mem_append.1 h with h | h
    · exact pro_wt j x h
    · obtain ⟨i, hi, rfl⟩ := List.mem_map.1 h
      have := List.mem_range.1 hi
      show i + j * K < t
      omega
theorem prs_px {K t a : Nat} (s : Nat → Nat) (h : a < (prs K t).length) : pxf (prs K t) a = (gz (pyf (prs K t)) s a (pyf (prs K t) a)).length := by
  rw [gz_ct]; exact pro_px t a h
theorem prs_wt {K t a : Nat} (h : a < (prs K t).length) : pxf (prs K t) a + pyf (prs K t) a * K < t := pro_wt t _ (getD_mem h)
theorem gn_step (p : Nat → Nat) (a : Nat) : gn p a ≤ gn p (a + 1) := by
  show _ ≤ if p a = gn p a then gn p a + 1 else gn p a
  split <;> omega
theorem gn_mono (p : Nat → Nat) (a : Nat) : ∀ d, gn p a ≤ gn p (a + d)
  | 0 => Nat.le_refl _
  | d + 1 => Nat.le_trans (gn_mono p a d) (gn_step p (a + d))
theorem gn_over {p : Nat → Nat} {a b : Nat} (h : p b ≤ gn p b) (hb : b < a) : p b < gn p a := by
  have h1 : p b < gn p (b + 1) := by
    show _ < if p b = gn p b then gn p b + 1 else gn p b
    split <;> omega
  have h2 := gn_mono p (b + 1) (a - (b + 1))
  rw [show b + 1 + (a - (b + 1)) = a by omega] at h2
  omega
theorem gn_most {p : Nat → Nat} {c : Nat} : ∀ a, (∀ b, b < a → p b < c) → gn p a ≤ c
  | 0, _ => Nat.zero_le _
  | a + 1, h => by
    have h1 := gn_most a (fun b hb => h b (by omega))
    have h2 := h a (by omega)
    show (if p a = gn p a then gn p a + 1 else gn p a) ≤ c
    split <;> omega
/-- How long the lists are. -/
theorem gz_short {K t : Nat} (s : Nat → Nat) (j : Nat) : ∀ a, a ≤ (prs K t).length → (gz (pyf (prs K t)) s a j).length = 0 ∨ (gz (pyf (prs K t)) s a j).length + j * K ≤ t
  | 0, _ => Or.inl rfl
  | a + 1, h => by
    have ih := gz_short (K := K) (t := t) s j a (by omega)
    by_cases e : j = pyf (prs K t) a
    · subst e
      rw [gzl_at, ← prs_px s (by omega)]
      have := prs_wt (K := K) (t := t) (a := a) (by omega)
      omega
    · rw [gz_off e]; exact ih
theorem gzf_bd (p s : Nat → Nat) (a j : Nat) : Bd (gz p s a j).length (gzf p s a j) := fun i hi => by
  unfold gzf
  rw [List.getD_eq_getElem?_getD, List.getElem?_eq_none hi]; rfl
theorem gzf_el {D : FD} (F : Fld D) {p s : Nat → Nat} (hs : El D s) (j : Nat) : ∀ a, El D (gzf p s a j)
  | 0, i => by
    show ((([] : List Int)).getD i 0).toNat < D.q
    simpa using zero_lt' F
  | a + 1, i => by
    by_cases e : j = p a
    · subst e
      rw [gzf_at]
      split
      · exact gzf_el F hs _ a i
      · split
        · exact hs a
        · exact zero_lt' F
    · unfold gzf
      rw [gz_off e]; exact gzf_el F hs j a i
theorem trd_le {n m : Nat} {c : Nat → Nat} (h : Trd m c) (hb : Bd n c) : m ≤ n := by
  refine Nat.le_of_not_lt fun hl => ?_
  exact h.2 (by omega) (hb (m - 1) (by omega))
theorem sok_orth {D : FD} (F : Fld D) {n P k1 k2 : Nat} {V R R2 : Nat → Nat → Nat} {p p2 : Nat → Nat} (hS : SOk D n P V k1 R p k2 R2 p2) (hV : ∀ i, El D (V i)) (h2 : 0 < k2) (i : Nat) (hi : i < n) : dot D (V i) (R2 0) P = 0 := by
  have h1 : Spn D (RowsOf k1 R) (V i) := (hS.spn (V i)).2 (spn_mem F (hV i) ⟨i, hi, rfl⟩)
  have h3 : Spn D (RowsOf (nct k1 p P) (nul D R p k1 P)) (R2 0) := (hS.spn2 (R2 0)).1 (spn_mem F (hS.rre2.el 0 h2) ⟨0, h2, rfl⟩)
  refine dot_spn F h1 fun v hv => ?_
  obtain ⟨j, hj, rfl⟩ := hv
  rw [dot_comm F]
  refine dot_spn F h3 fun u hu => ?_
  obtain ⟨l, hl, rfl⟩ := hu
  rw [dot_comm F]
  exact nul_orth F hS.rre hj hl

/-- What Curve reckons step by step, of Sudan's lists. -/
theorem curve_steps {D : FD} (hD : D ∈ fieldsL) {t : Nat} (ht : t ≤ 64) {s a : Nat → Nat} (hs : El D s) (ha : El D a) (hb : Bd 2 a) {l : List (Nat × Nat)} (hl : l = prs 1 t) {P m : Nat} (hP : P = l.length) (hm : m = gn (pyf l) P) {N : Nat → Nat} {Z : Nat → Nat → Int} (hN : ∀ j, j < m → N j = (gz (pyf l) s P j).length) (hZ : ∀ j, j < m → Z j = fun i => ((gzf (pyf l) s P j i : Nat) : Int)) :
    ∀ r, r ≤ m → cve D a (dgn a 2) N Z m r = 0 ∧ Bd (t - (m - r)) (cvs D a (dgn a 2) N Z m r).2 ∧ ∀ x, D.ev (cvs D a (dgn a 2) N Z m r).2 x (t + 2) = hrn D (fun j => D.ev (gzf (pyf l) s P j) x (gz (pyf l) s P j).length) (D.ev a x 2) m r
  | 0, _ => ⟨rfl, fun _ _ => rfl, fun x => ev_nil (fld hD) x _⟩
  | r + 1, hr => by
    have F := fld hD
    obtain ⟨e0, hbd, hev⟩ := curve_steps hD ht hs ha hb hl hP hm hN hZ r (by omega)
    obtain ⟨T, hT⟩ : ∃ T, T = dgn a 2 := ⟨_, rfl⟩
    rw [← hT] at e0 hbd hev ⊢
    have hT2 : T ≤ 2 := by rw [hT]; exact dgn_le _ _
    have hTb : Bd T a := by rw [hT]; exact dgn_bd hb
    obtain ⟨hE, hTr, h128⟩ := cvs_ok (N := N) (Z := Z) (m := m) hD ha hTb r e0
    obtain ⟨c1, hc1⟩ : ∃ c1, c1 = (cvs D a T N Z m r).1 := ⟨_, rfl⟩
    obtain ⟨c, hc⟩ : ∃ c, c = (cvs D a T N Z m r).2 := ⟨_, rfl⟩
    rw [← hc] at hbd hev hE
    rw [← hc, ← hc1] at hTr
    have hmt : m ≤ t := by
      rw [hm]
      exact gn_most P (fun b hb2 => by rw [hl]; rw [hP, hl] at hb2; exact pyf_lt hb2)
    have hc1b : c1 ≤ t - (m - r) := trd_le hTr hbd
    obtain ⟨j, hj⟩ : ∃ j, j = m - 1 - r := ⟨_, rfl⟩
    have hjm : j < m := by omega
    have hNj := hN j hjm
    have hZj := hZ j hjm
    have hlen : (gz (pyf l) s P j).length ≤ t - j := by
      have := gz_short (K := 1) (t := t) s j P (by rw [hP, hl]; exact Nat.le_refl _)
      rw [← hl] at this
      omega
    have hzc : zc (N j) (Z j) = gzf (pyf l) s P j := by rw [hNj, hZj]; exact zc_nat (gzf_bd _ _ _ _)
    have hg := gzf_bd (pyf l) s P j
    have hge := gzf_el F (p := pyf l) hs j P
    refine ⟨?_, ?_, fun x => ?_⟩
    · rw [cve, if_neg (fun hn => hn e0), if_neg (by rw [← hc1]; omega), ← hj, hNj, hZj]
      exact chk_nat hge (by omega)
    · show Bd _ (padd D (pmul D (cvs D a T N Z m r).1 (cvs D a T N Z m r).2 a) (zc (N (m - 1 - r)) (Z (m - 1 - r))))
      rw [← hc1, ← hc, ← hj, hzc]
      intro i hi
      have h1 := pmul_bd F (a := c) hTb c1 i (by omega)
      have h2 := hg i (by omega)
      show D.ad (pmul D c1 c a i) (gzf (pyf l) s P j i) = 0
      rw [h1, h2, ad_zero F (zero_lt' F)]
    · show D.ev (padd D (pmul D (cvs D a T N Z m r).1 (cvs D a T N Z m r).2 a) (zc (N (m - 1 - r)) (Z (m - 1 - r)))) x (t + 2) = D.ad (D.mul (hrn D _ (D.ev a x 2) m r) (D.ev a x 2)) _
      rw [← hc1, ← hc, ← hj, hzc, ev_add F x (el_mul F _ _ _) hge, ev_mul F x hTb ha c1 (t + 2) (by omega), ← hev x]
      rw [ev_from F x hg (show (gz (pyf l) s P j).length ≤ t + 2 by omega), ev_from F x hTb hT2, ev_from F x hTr.1 (show c1 ≤ t + 2 by omega)]

/-- The curve of a message that agrees at t places with the word is nought. -/
theorem sudan_nought {D : FD} (hD : D ∈ fieldsL) {n t : Nat} (ht : t ≤ n) (hn : n ≤ 64) {xs y a : Nat → Nat} (hx : ∀ i, i < n → xs i < D.q) (hne : ∀ i j, i < n → j < n → i ≠ j → xs i ≠ xs j) (hy : ∀ i, i < n → y i < D.q) {l : List (Nat × Nat)} (hl : l = prs 1 t) {P m : Nat} (hP : P = l.length) (hm : m = gn (pyf l) P) {k1 k2 : Nat} {R R2 : Nat → Nat → Nat} {p p2 : Nat → Nat} (hS : SOk D n P (svm D xs y l) k1 R p k2 R2 p2) (h2 : 0 < k2) (ha : El D a) (hb : Bd 2 a) (hag : t ≤ ct (fun i => decide (D.ev a (xs i) 2 = y i)) n) {N : Nat → Nat} {Z : Nat → Nat → Int} (hN : ∀ j, j < m → N j = (gz (pyf l) (R2 0) P j).length) (hZ : ∀ j, j < m → Z j = fun i => ((gzf (pyf l) (R2 0) P j i : Nat) : Int)) :
    cve D a (dgn a 2) N Z m m = 0 ∧ (cvs D a (dgn a 2) N Z m m).1 = 0 := by
  have F := fld hD
  have hs := hS.rre2.el 0 h2
  obtain ⟨e0, hbd, hev⟩ := curve_steps hD (by omega) hs ha hb hl hP hm hN hZ m (Nat.le_refl _)
  refine ⟨e0, ?_⟩
  rw [Nat.sub_self, Nat.sub_zero] at hbd
  obtain ⟨hE, hTr, _⟩ := cvs_ok (N := N) (Z := Z) (m := m) hD ha (dgn_bd hb) m e0
  obtain ⟨c, hc⟩ : ∃ c, c = (cvs D a (dgn a 2) N Z m m).2 := ⟨_, rfl⟩
  rw [← hc] at hbd hev hE hTr
  have hnil : c = pnil := Classical.byContradiction fun h0 => by
    have h1 := few_roots F hx hne t hE hbd h0
    have h3 : ct (fun i => decide (D.ev a (xs i) 2 = y i)) n ≤ ct (fun i => decide (D.ev c (xs i) t = 0)) n := ct_mono n fun i hi he => by
      have he : D.ev a (xs i) 2 = y i := of_decide_eq_true he
      refine decide_eq_true ?_
      rw [← ev_from F (xs i) hbd (show t ≤ t + 2 by omega), hev (xs i), hrn_is F (fun j => ev_lt F _ _ _) _ m m (Nat.le_refl _), Nat.sub_self, he]
      have h4 := lists_sum F (p := pyf l) (px := pxf l) hs (xs i) (y i) m P (fun b hb2 => by
        have hb3 : b < (prs 1 t).length := by rw [← hl, ← hP]; exact hb2
        refine ⟨?_, ?_⟩
        · rw [hm, hl]
          rw [hP, hl]
          exact gn_over (prs_gn hb3) hb3
        · rw [hl]; exact prs_px _ hb3)
      have h5 := sok_orth F hS (svm_el hD xs y l) h2 i hi
      have h6 : dot D (svm D xs y l i) (R2 0) P = dot D (fun b => D.mul (D.xp (xs i) (pxf l b)) (D.xp (y i) (pyf l b))) (R2 0) P := dot_congr P fun b hb2 => ⟨by
        unfold svm
        rw [if_pos (by rw [← hP]; exact hb2), pn_xp hD (hx i hi), pn_xp hD (hy i hi)], rfl⟩
      rw [h6, h4] at h5
      refine Eq.trans (fsm_congr m fun j _ => ?_) h5
      show D.mul (D.ev (gzf (pyf l) (R2 0) P (0 + j)) (xs i) (gz (pyf l) (R2 0) P (0 + j)).length) (D.xp (y i) j) = _
      rw [Nat.zero_add]
    omega
  rw [hnil] at hTr
  exact Classical.byContradiction fun h0 => hTr.2 h0 rfl
end Go.Proofs.Ytcgmllamiaflcaa
