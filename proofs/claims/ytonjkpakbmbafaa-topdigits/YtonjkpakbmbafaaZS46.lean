/- Signs that check: one digit wrong shows; two neighbours that change places show (mathematics, no Go). -/
import Derived.Test.YtonjkpakbmbafaaZS45
namespace Go.Proofs.Ytonjkpakbmbafaa

theorem rvf_keep {d e : Nat → Nat} {n i : Nat} (hd : ∀ j, j < n → d j ≤ 10) (h : rvf d n i ≠ rvf e n i) : ∀ k, i + k ≤ n → (∀ j, i ≤ j → j < i + k → d (n - 1 - j) = e (n - 1 - j) ∧ d (n - 1 - j) < 10) → rvf d n (i + k) ≠ rvf e n (i + k)
  | 0, _, _ => h
  | k + 1, hk, hs => by
    have ih := rvf_keep hd h k (by omega) (fun j h1 h2 => hs j h1 (by omega))
    have h1 := hs (i + k) (by omega) (by omega)
    intro he
    apply ih
    have he : dih (rvf d n (i + k)) (vtk ((i + k) % 8) (d (n - 1 - (i + k)))) = dih (rvf e n (i + k)) (vtk ((i + k) % 8) (e (n - 1 - (i + k)))) := he
    rw [← h1.1] at he
    exact dih_right _ (vtk_lt h1.2 _) _ (rvf_lt d n _) _ (rvf_lt e n _) he
theorem rvf_same {d e : Nat → Nat} {n : Nat} : ∀ i, (∀ j, j < i → d (n - 1 - j) = e (n - 1 - j)) → rvf d n i = rvf e n i
  | 0, _ => rfl
  | i + 1, h => by
    show dih (rvf d n i) _ = dih (rvf e n i) _
    rw [rvf_same i (fun j hj => h j (by omega)), h i (by omega)]
theorem dfo_keep {d e : Nat → Nat} {i : Nat} (h : dfo d i ≠ dfo e i) : ∀ k, (∀ j, j < i + k → d j < 10 ∧ e j < 10) → (∀ j, i ≤ j → j < i + k → d j = e j) → dfo d (i + k) ≠ dfo e (i + k)
  | 0, _, _ => h
  | k + 1, hd, hs => by
    have ih := dfo_keep h k (fun j hj => hd j (by omega)) (fun j h1 h2 => hs j h1 (by omega))
    intro he
    apply ih
    have he : dsq (dfo d (i + k)) (d (i + k)) = dsq (dfo e (i + k)) (e (i + k)) := he
    rw [← hs (i + k) (by omega) (by omega)] at he
    exact dsq_right _ (hd (i + k) (by omega)).1 _ (dfo_lt _ (fun j hj => (hd j (by omega)).1)) _ (dfo_lt _ (fun j hj => (hd j (by omega)).2)) he

/-- One digit is another one. -/
structure OneX (n a : Nat) (d e : Nat → Nat) : Prop where
  lt : a < n
  ne : d a ≠ e a
  da : d a < 10
  ea : e a < 10
  same : ∀ j, j < n → j ≠ a → d j = e j

theorem ckL_one {n a : Nat} {d e : Nat → Nat} (h : OneX n a d e) (h1 : ckL n d = true) : ckL n e = false := by
  cases h2 : ckL n e with
  | false => rfl
  | true =>
    exfalso
    unfold ckL at h1 h2
    rw [beq_iff_eq] at h1 h2
    have hp := dsu_part (f := fun i => lwt i (d (n - 1 - i))) (g := fun i => lwt i (e (n - 1 - i))) (a := n - 1 - a) n (by have := h.lt; omega) (fun i hi hia => by
      show lwt i (d (n - 1 - i)) = lwt i (e (n - 1 - i))
      rw [h.same (n - 1 - i) (by omega) (by have := h.lt; omega)])
    have ea : n - 1 - (n - 1 - a) = a := by have := h.lt; omega
    rw [ea] at hp
    have h3 := lwt_nine (e := n - 1 - a) (Nat.le_of_lt_succ h.da)
    have h4 := lwt_nine (e := n - 1 - a) (Nat.le_of_lt_succ h.ea)
    exact h.ne (lwt_inj (e := n - 1 - a) (Nat.le_of_lt_succ h.da) (Nat.le_of_lt_succ h.ea) (by omega))
theorem mul_eleven : ∀ w, w < 11 → 1 ≤ w → ∀ x, x < 10 → ∀ y, y < 10 → w * x % 11 = w * y % 11 → x = y := by decide +kernel
theorem mul_ten : ∀ w, w < 2 → ∀ x, x < 10 → ∀ y, y < 10 → x * (1 + w * 2) % 10 = y * (1 + w * 2) % 10 → x = y := by decide +kernel
theorem ckB_one {a : Nat} {d e : Nat → Nat} (h : OneX 10 a d e) (h1 : ckB 10 d = true) : ckB 10 e = false := by
  cases h2 : ckB 10 e with
  | false => rfl
  | true =>
    exfalso
    unfold ckB at h1 h2
    rw [beq_iff_eq] at h1 h2
    have hp := dsu_part (f := fun i => (10 - i) * d i) (g := fun i => (10 - i) * e i) (a := a) 10 h.lt (fun i hi hia => by
      show (10 - i) * d i = (10 - i) * e i
      rw [h.same i hi hia])
    have hlt := h.lt
    exact h.ne (mul_eleven (10 - a) (by omega) (by omega) _ h.da _ h.ea (by omega))
theorem ckT_one {n a : Nat} {d e : Nat → Nat} (h : OneX n a d e) (h1 : ckT n d = true) : ckT n e = false := by
  cases h2 : ckT n e with
  | false => rfl
  | true =>
    exfalso
    unfold ckT at h1 h2
    rw [beq_iff_eq] at h1 h2
    have hp := dsu_part (f := fun i => d i * (1 + i % 2 * 2)) (g := fun i => e i * (1 + i % 2 * 2)) (a := a) n h.lt (fun i hi hia => by
      show d i * _ = e i * _
      rw [h.same i hi hia])
    exact h.ne (mul_ten (a % 2) (by omega) _ h.da _ h.ea (by omega))
theorem ckV_one {n a : Nat} {d e : Nat → Nat} (h : OneX n a d e) (hd : ∀ j, j < n → d j < 10) (h1 : ckV n d = true) : ckV n e = false := by
  unfold ckV at h1 ⊢
  rw [beq_iff_eq] at h1
  rw [beq_eq_false_iff_ne]
  intro h2
  have hlt := h.lt
  have hb := rvf_same (d := d) (e := e) (n := n) (n - 1 - a) (fun j hj => h.same _ (by omega) (by omega))
  have ea : n - 1 - (n - 1 - a) = a := by omega
  have hne : rvf d n (n - 1 - a + 1) ≠ rvf e n (n - 1 - a + 1) := by
    intro he
    have he : dih (rvf d n (n - 1 - a)) (vtk ((n - 1 - a) % 8) (d (n - 1 - (n - 1 - a)))) = dih (rvf e n (n - 1 - a)) (vtk ((n - 1 - a) % 8) (e (n - 1 - (n - 1 - a)))) := he
    rw [ea, ← hb] at he
    exact h.ne (vtk_inj h.da h.ea _ (dih_left _ (rvf_lt d n _) _ (vtk_lt h.da _) _ (vtk_lt h.ea _) he))
  have := rvf_keep (fun j hj => Nat.le_of_lt (hd j hj)) hne a (by omega) (fun j h3 h4 => ⟨h.same _ (by omega) (by omega), hd _ (by omega)⟩)
  rw [show n - 1 - a + 1 + a = n by omega] at this
  exact this (by rw [h1, h2])
theorem ckD_one {n a : Nat} {d e : Nat → Nat} (h : OneX n a d e) (hd : ∀ j, j < n → d j < 10) (h1 : ckD n d = true) : ckD n e = false := by
  unfold ckD at h1 ⊢
  rw [beq_iff_eq] at h1
  rw [beq_eq_false_iff_ne]
  intro h2
  have hlt := h.lt
  have he10 : ∀ j, j < n → e j < 10 := fun j hj => by
    by_cases c : j = a
    · rw [c]; exact h.ea
    · rw [← h.same j hj c]; exact hd j hj
  have hb := dfo_congr (d := d) (e := e) a (fun j hj => h.same _ (by omega) (by omega))
  have hne : dfo d (a + 1) ≠ dfo e (a + 1) := by
    intro he
    have he : dsq (dfo d a) (d a) = dsq (dfo e a) (e a) := he
    rw [← hb] at he
    exact h.ne (dsq_left _ (dfo_lt a (fun j hj => hd j (by omega))) _ h.da _ h.ea he)
  have := dfo_keep hne (n - 1 - a) (fun j hj => ⟨hd j (by omega), he10 j (by omega)⟩) (fun j h3 h4 => h.same _ (by omega) (by omega))
  rw [show a + 1 + (n - 1 - a) = n by omega] at this
  exact this (by rw [h1, h2])
/-- One digit wrong shows. -/
theorem ckk_one {k m a : Nat} {d e : Nat → Nat} (hm : sgm k m) (h : OneX (m + 1) a d e) (hx : ∀ j, j < m + 1 → d j ≤ sgx k) (h1 : ckk k (m + 1) d = true) : ckk k (m + 1) e = false := by
  unfold ckk at h1 ⊢
  unfold sgx at hx
  by_cases e1 : k = 1
  · rw [if_pos e1] at h1 ⊢; exact ckL_one h h1
  rw [if_neg e1] at h1 ⊢
  by_cases e2 : k = 2
  · rw [if_pos e2] at h1 ⊢
    have := hm.2.2.1 e2
    subst this
    exact ckB_one h h1
  rw [if_neg e2] at h1 ⊢
  rw [if_neg e2] at hx
  by_cases e3 : k = 3
  · rw [if_pos e3] at h1 ⊢; exact ckT_one h h1
  rw [if_neg e3] at h1 ⊢
  by_cases e4 : k = 4
  · rw [if_pos e4] at h1 ⊢; exact ckV_one h (fun j hj => Nat.lt_succ_of_le (hx j hj)) h1
  rw [if_neg e4] at h1 ⊢
  exact ckD_one h (fun j hj => Nat.lt_succ_of_le (hx j hj)) h1

/-- Two neighbours change places. -/
def swq (d : Nat → Nat) (a : Nat) : Nat → Nat := fun j => if j = a then d (a + 1) else if j = a + 1 then d a else d j
theorem swq_a (d : Nat → Nat) (a : Nat) : swq d a a = d (a + 1) := if_pos rfl
theorem swq_b (d : Nat → Nat) (a : Nat) : swq d a (a + 1) = d a := by unfold swq; rw [if_neg (by omega), if_pos rfl]
theorem swq_o (d : Nat → Nat) {a j : Nat} (h1 : j ≠ a) (h2 : j ≠ a + 1) : swq d a j = d j := by unfold swq; rw [if_neg h1, if_neg h2]
def swx (N a n x : Nat) : Nat := if a < n then (if a + 1 < n then x else (N - a) * x) else 0
theorem swx_0 {N a n x : Nat} (h : n ≤ a) : swx N a n x = 0 := by unfold swx; rw [if_neg (by omega)]
theorem swx_1 {N a x : Nat} : swx N a (a + 1) x = (N - a) * x := by unfold swx; rw [if_pos (by omega), if_neg (by omega)]
theorem swx_2 {N a n x : Nat} (h : a + 1 < n) : swx N a n x = x := by unfold swx; rw [if_pos (by omega), if_pos h]
theorem swq_sum {N a : Nat} {d : Nat → Nat} : ∀ n, n ≤ N → dsu (fun i => (N - i) * swq d a i) n + swx N a n (d a) = dsu (fun i => (N - i) * d i) n + swx N a n (d (a + 1))
  | 0, _ => by rw [swx_0 (by omega), swx_0 (by omega)]; rfl
  | n + 1, hn => by
    have ih := swq_sum (N := N) (a := a) (d := d) n (by omega)
    show dsu (fun i => (N - i) * swq d a i) n + (N - n) * swq d a n + swx N a (n + 1) (d a) = dsu (fun i => (N - i) * d i) n + (N - n) * d n + swx N a (n + 1) (d (a + 1))
    by_cases h1 : n < a
    · rw [swx_0 (by omega), swx_0 (by omega)] at ih ⊢
      rw [swq_o d (by omega) (by omega)]; omega
    by_cases h2 : n = a
    · subst h2
      rw [swx_0 (by omega), swx_0 (by omega)] at ih
      rw [swx_1, swx_1, swq_a]; omega
    by_cases h3 : n = a + 1
    · subst h3
      rw [swx_1, swx_1] at ih
      rw [swx_2 (by omega), swx_2 (by omega), swq_b]
      have e1 : N - a = (N - (a + 1)) + 1 := by omega
      rw [e1, Nat.add_mul, Nat.add_mul, Nat.one_mul, Nat.one_mul] at ih
      omega
    · rw [swx_2 (by omega), swx_2 (by omega)] at ih ⊢
      rw [swq_o d (by omega) (by omega)]; omega
theorem ckB_two {n a : Nat} {d : Nat → Nat} (ha : a + 1 < n) (hne : d a ≠ d (a + 1)) (h10 : d a < 10) (h11 : d (a + 1) < 10) (h1 : ckB n d = true) : ckB n (swq d a) = false := by
  unfold ckB at h1 ⊢
  rw [beq_iff_eq] at h1
  rw [beq_eq_false_iff_ne]
  intro h2
  have h := swq_sum (N := n) (a := a) (d := d) n (Nat.le_refl _)
  rw [swx_2 (by omega), swx_2 (by omega)] at h
  omega
theorem ckV_two {n a : Nat} {d : Nat → Nat} (ha : a + 1 < n) (hne : d a ≠ d (a + 1)) (hd : ∀ j, j < n → d j < 10) (h1 : ckV n d = true) : ckV n (swq d a) = false := by
  unfold ckV at h1 ⊢
  rw [beq_iff_eq] at h1
  rw [beq_eq_false_iff_ne]
  intro h2
  obtain ⟨i, hi⟩ : ∃ i, i = n - 1 - (a + 1) := ⟨_, rfl⟩
  have hb := rvf_same (d := d) (e := swq d a) (n := n) i (fun j hj => (swq_o d (by omega) (by omega)).symm)
  have x1 : n - 1 - i = a + 1 := by omega
  have x2 : n - 1 - (i + 1) = a := by omega
  have hne2 : rvf d n (i + 2) ≠ rvf (swq d a) n (i + 2) := by
    intro he
    have he : dih (dih (rvf d n i) (vtk (i % 8) (d (n - 1 - i)))) (vtk ((i + 1) % 8) (d (n - 1 - (i + 1)))) = dih (dih (rvf (swq d a) n i) (vtk (i % 8) (swq d a (n - 1 - i)))) (vtk ((i + 1) % 8) (swq d a (n - 1 - (i + 1)))) := he
    have hA := hd a (by omega)
    have hB := hd (a + 1) ha
    rw [x1, x2, swq_a, swq_b, ← hb, vtk_mod hA, vtk_mod hB, vtk_mod hA, vtk_mod hB, dih_assoc _ (rvf_lt d n i) _ (vtk_lt hB _) _ (vtk_lt hA _), dih_assoc _ (rvf_lt d n i) _ (vtk_lt hA _) _ (vtk_lt hB _)] at he
    have h3 := dih_left _ (rvf_lt d n i) _ dih_lt _ dih_lt he
    have h4 := vtn_anti _ (vtk_lt hB i) _ (vtk_lt hA i) h3
    exact hne (vtk_inj hB hA i h4).symm
  have := rvf_keep (fun j hj => Nat.le_of_lt (hd j hj)) hne2 a (by omega) (fun j h3 h4 => ⟨(swq_o d (by omega) (by omega)).symm, hd _ (by omega)⟩)
  rw [show i + 2 + a = n by omega] at this
  exact this (by rw [h1, h2])
theorem ckD_two {n a : Nat} {d : Nat → Nat} (ha : a + 1 < n) (hne : d a ≠ d (a + 1)) (hd : ∀ j, j < n → d j < 10) (h1 : ckD n d = true) : ckD n (swq d a) = false := by
  unfold ckD at h1 ⊢
  rw [beq_iff_eq] at h1
  rw [beq_eq_false_iff_ne]
  intro h2
  have he10 : ∀ j, j < n → swq d a j < 10 := fun j hj => by
    unfold swq
    split
    · exact hd _ ha
    · split
      · exact hd _ (by omega)
      · exact hd j hj
  have hb := dfo_congr (d := d) (e := swq d a) a (fun j hj => (swq_o d (by omega) (by omega)).symm)
  have hne2 : dfo d (a + 2) ≠ dfo (swq d a) (a + 2) := by
    intro he
    have he : dsq (dsq (dfo d a) (d a)) (d (a + 1)) = dsq (dsq (dfo (swq d a) a) (swq d a a)) (swq d a (a + 1)) := he
    rw [swq_a, swq_b, ← hb] at he
    exact hne (dsq_anti _ (dfo_lt a (fun j hj => hd j (by omega))) _ (hd a (by omega)) _ (hd (a + 1) ha) he)
  have := dfo_keep hne2 (n - 2 - a) (fun j hj => ⟨hd j (by omega), he10 j (by omega)⟩) (fun j h3 h4 => (swq_o d (by omega) (by omega)).symm)
  rw [show a + 2 + (n - 2 - a) = n by omega] at this
  exact this (by rw [h1, h2])
/-- Two neighbours that change places show. -/
theorem ckk_two {k n a : Nat} {d : Nat → Nat} (hk : k = 2 ∨ k = 4 ∨ 5 ≤ k) (ha : a + 1 < n) (hne : d a ≠ d (a + 1)) (h10 : d a < 10) (h11 : d (a + 1) < 10) (hx : ∀ j, j < n → d j ≤ sgx k) (h1 : ckk k n d = true) : ckk k n (swq d a) = false := by
  unfold ckk at h1 ⊢
  unfold sgx at hx
  rw [if_neg (by omega)] at h1 ⊢
  by_cases e2 : k = 2
  · rw [if_pos e2] at h1 ⊢; exact ckB_two ha hne h10 h11 h1
  rw [if_neg e2] at h1 ⊢
  rw [if_neg e2] at hx
  rw [if_neg (by omega)] at h1 ⊢
  by_cases e4 : k = 4
  · rw [if_pos e4] at h1 ⊢; exact ckV_two ha hne (fun j hj => Nat.lt_succ_of_le (hx j hj)) h1
  rw [if_neg e4] at h1 ⊢
  exact ckD_two ha hne (fun j hj => Nat.lt_succ_of_le (hx j hj)) h1
end Go.Proofs.Ytonjkpakbmbafaa
