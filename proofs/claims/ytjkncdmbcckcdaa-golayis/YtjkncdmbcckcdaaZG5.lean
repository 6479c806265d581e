/- Golay's two codes: GolayIs' walk. -/
import Derived.Test.YtjkncdmbcckcdaaZG4
import Derived.Test.YtjkncdmbcckcdaaZI5
namespace Go.Proofs.Ytjkncdmbcckcdaa
open Go.RowKit Go.Sort

/-- A list of numbers, as coefficients. -/
def lsf (l : List Nat) : Nat → Nat := fun j => l.getD j 0
theorem lsf_el {D : FD} {l : List Nat} (h : (decide (0 < D.q) && l.all (fun x => decide (x < D.q))) = true) : El D (lsf l) := fun j => by
  rw [Bool.and_eq_true, decide_eq_true_eq] at h
  unfold lsf
  by_cases e : j < l.length
  · have hm : l.getD j 0 ∈ l := by simp [List.getD_eq_getElem?_getD, e]
    exact of_decide_eq_true (List.all_eq_true.1 h.2 _ hm)
  · rw [List.getD_eq_getElem?_getD, List.getElem?_eq_none (by omega)]
    exact h.1
theorem lsf_bd (l : List Nat) : Bd l.length (lsf l) := fun j hj => by
  unfold lsf
  rw [List.getD_eq_getElem?_getD, List.getElem?_eq_none hj]; rfl
theorem arg_lsf (l : List Nat) (w : World) (hl : l.length ≤ 1000000 := by decide) : Arg (some ⟨w.heap.size, 0, none⟩) l.length l.length (fun j => ((lsf l j : Nat) : Int)) (w.alloc (.cells (l.map fun x => Value.int .i64 (x : Nat)).toArray 3)) := by
  refine ⟨slz_ofg (sl_new l (lsf l) w (fun j hj => ?_)), fun x hx => ?_, hl, (fun e => by cases e), Nat.le_refl _, by omega⟩
  · unfold lsf
    simp [List.getD_eq_getElem?_getD, hj]
  · cases hx
    simp

/-- The field of 2. -/
def F2 : FD := ⟨2, 2, 1, 0, 1⟩
theorem F2_in : F2 ∈ fieldsL := List.Mem.head _
def F2g : Nat → Nat := lsf [1, 0, 1, 0, 1, 1, 1, 0, 0, 0, 1, 1]
def F2q : Nat → Nat := lsf [1, 0, 1, 0, 0, 1, 0, 0, 1, 1, 1, 1, 1]
theorem F2g_el : El F2 F2g := lsf_el (by decide +kernel)
theorem F2q_el : El F2 F2q := lsf_el (by decide +kernel)
theorem F2g_bd : Bd 12 F2g := lsf_bd [1, 0, 1, 0, 1, 1, 1, 0, 0, 0, 1, 1]
theorem F2q_bd : Bd (12 + 1) F2q := lsf_bd [1, 0, 1, 0, 0, 1, 0, 0, 1, 1, 1, 1, 1]
theorem F2_mul : pmul F2 (12 + 1) F2q F2g = whl F2 23 := by
  have h : (List.range 24).all (fun j => pmul F2 (12 + 1) F2q F2g j == whl F2 23 j) = true := by decide +kernel
  have hb : Bd 24 (pmul F2 (12 + 1) F2q F2g) := pmul_bd (fld F2_in) F2g_bd (12 + 1)
  funext j
  by_cases e : j < 24
  · exact eq_of_beq (List.all_eq_true.1 h j (List.mem_range.2 e))
  · rw [hb j (by omega), whl_bd (D := F2) (n := 23) j (by omega)]

/-- The field of 3. -/
def F3 : FD := ⟨3, 3, 1, 0, 2⟩
theorem F3_in : F3 ∈ fieldsL := List.Mem.tail _ (List.Mem.head _)
def F3g : Nat → Nat := lsf [2, 0, 1, 2, 1, 1]
def F3q : Nat → Nat := lsf [1, 0, 1, 2, 2, 2, 1]
theorem F3g_el : El F3 F3g := lsf_el (by decide +kernel)
theorem F3q_el : El F3 F3q := lsf_el (by decide +kernel)
theorem F3g_bd : Bd 6 F3g := lsf_bd [2, 0, 1, 2, 1, 1]
theorem F3q_bd : Bd (6 + 1) F3q := lsf_bd [1, 0, 1, 2, 2, 2, 1]
theorem F3_mul : pmul F3 (6 + 1) F3q F3g = whl F3 11 := by
  have h : (List.range 12).all (fun j => pmul F3 (6 + 1) F3q F3g j == whl F3 11 j) = true := by decide +kernel
  have hb : Bd 12 (pmul F3 (6 + 1) F3q F3g) := pmul_bd (fld F3_in) F3g_bd (6 + 1)
  funext j
  by_cases e : j < 12
  · exact eq_of_beq (List.all_eq_true.1 h j (List.mem_range.2 e))
  · rw [hb j (by omega), whl_bd (D := F3) (n := 11) j (by omega)]

set_option maxHeartbeats 4000000 in
set_option maxRecDepth 100000 in
theorem binary_any (w : World) :
    Calls Try.prog 25 #[] w fun x w' => ∃ k R ro rc, x = .returned (.agg #[.int .i64 2, .int .i64 24, .slice ro k rc]) ∧ RL (.slice ro k rc) k 24 R w' ∧ Red F2 24 12 (fun i => xtd F2 23 (psh i F2g)) k R ∧ Below w.heap.size w w' := by
  obtain ⟨w0, hw0⟩ : ∃ w0, w0 = (w.alloc (.cells #[.int .i64 0, .int .i64 0, .slice none 0 0] 49)).alloc (.cells #[.int .i64 1, .int .i64 0, .int .i64 1, .int .i64 0, .int .i64 1, .int .i64 1, .int .i64 1, .int .i64 0, .int .i64 0, .int .i64 0, .int .i64 1, .int .i64 1] 3) := ⟨_, rfl⟩
  have HW : Hid (Below w.heap.size w w0 ∧ RB w.heap.size w0 ∧ Arg (some ⟨w.heap.size + 1, 0, none⟩) 12 12 (fun j => ((F2g j : Nat) : Int)) w0) := by
    obtain ⟨g1, g2, g3⟩ := box_at 0 0 (.slice none 0 0) w
    have g4 := RB.new (.int .i64 0) (.int .i64 0) (.slice none 0 0) w
    obtain ⟨w1, hw1⟩ : ∃ w1, w1 = w.alloc (.cells #[.int .i64 0, .int .i64 0, .slice none 0 0] 49) := ⟨_, rfl⟩
    rw [← hw1] at g1 g2 g3 g4 hw0
    have h1 : Below w1.heap.size w1 w0 := by rw [hw0]; exact (Below.refl _ _).alloc (Nat.le_refl _) _
    refine ⟨bel_up' g1 h1, g4.keep h1, ?_⟩
    rw [← g3, hw0]
    exact arg_lsf [1, 0, 1, 0, 1, 1, 1, 0, 0, 0, 1, 1] w1
  have HE : Hid (∀ wx, Below w0.heap.size w0 wx → Calls Try.prog 70 #[.int .i64 2, .int .i64 23, .slice (some ⟨w.heap.size + 1, 0, none⟩) 12 12] wx fun x w' => ∃ k R ro rc, x = .returned (.agg #[.int .i64 2, .int .i64 24, .slice ro k rc]) ∧ MV wx.heap.size (.slice ro k rc) k 24 R w' ∧ Red F2 24 12 (fun i => xtd F2 23 (psh i F2g)) k R ∧ Below wx.heap.size wx w') := fun wx hx => by
    exact gext_any (n := 23) F2_in (HW.out.2.2.below hx) (by omega) F2g_el F2g_bd (by decide) (by omega) (by omega) (K := 12) (by omega) F2q_el F2q_bd (by decide) F2_mul
  go_enter Try.func25, Try.ntmps25
  go_wp2_with fail
  rw [← hw0]
  clear hw0
  refine (HE.out _ (Below.refl _ _)).mono ?_
  rintro x w2 ⟨k, R, ro, rc, rfl, hmv, hred, hb2⟩
  have H2 : Hid (MV w0.heap.size (.slice ro k rc) k 24 R w2 ∧ Red F2 24 12 (fun i => xtd F2 23 (psh i F2g)) k R ∧ Below w.heap.size w w2 ∧ RB w.heap.size w2 ∧ w.heap.size < w0.heap.size) := ⟨hmv, hred, bel_up' HW.out.1 hb2, HW.out.2.1.keep hb2, by obtain ⟨⟨x0, c0⟩, _⟩ := HW.out.2.1; exact cell_lt c0⟩
  clear hmv hred hb2
  obtain ⟨⟨x0, c0⟩, ⟨x1, c1⟩, ⟨x2, c2⟩, f0, f1, f2⟩ := H2.out.2.2.2.1
  go_wp2
  obtain ⟨w3, hw3⟩ : ∃ w3, w3 = laid w2 w.heap.size 2 24 (.slice ro k rc) := ⟨_, rfl⟩
  have H3 : Hid (CB w.heap.size 2 24 (.slice ro k rc) w3 ∧ RL (.slice ro k rc) k 24 R w3 ∧ Below w.heap.size w w3) := by
    rw [hw3]; exact ⟨laid_cb H2.out.2.2.2.1 _ _ _, (laid_mv H2.out.1 H2.out.2.2.2.2 _ _ _).rl, laid_below H2.out.2.2.1 (Nat.le_refl _) _ _ _⟩
  unfold laid at hw3
  rw [← hw3]
  clear hw3 c0 c1 c2 f0 f1 f2
  obtain ⟨c0, c1, c2⟩ := H3.out.1
  refine bodyPost_ret (v := .agg #[.int .i64 2, .int .i64 24, .slice ro k rc]) (by simp [results, Try.results25, go_sem, c0, c1, c2]) rfl ?_
  exact ⟨_, R, _, _, rfl, H3.out.2.1, H2.out.2.1, H3.out.2.2⟩

set_option maxHeartbeats 4000000 in
set_option maxRecDepth 100000 in
theorem ternary_any (w : World) :
    Calls Try.prog 27 #[] w fun x w' => ∃ k R ro rc, x = .returned (.agg #[.int .i64 3, .int .i64 12, .slice ro k rc]) ∧ RL (.slice ro k rc) k 12 R w' ∧ Red F3 12 6 (fun i => xtd F3 11 (psh i F3g)) k R ∧ Below w.heap.size w w' := by
  obtain ⟨w0, hw0⟩ : ∃ w0, w0 = (w.alloc (.cells #[.int .i64 0, .int .i64 0, .slice none 0 0] 49)).alloc (.cells #[.int .i64 2, .int .i64 0, .int .i64 1, .int .i64 2, .int .i64 1, .int .i64 1] 3) := ⟨_, rfl⟩
  have HW : Hid (Below w.heap.size w w0 ∧ RB w.heap.size w0 ∧ Arg (some ⟨w.heap.size + 1, 0, none⟩) 6 6 (fun j => ((F3g j : Nat) : Int)) w0) := by
    obtain ⟨g1, g2, g3⟩ := box_at 0 0 (.slice none 0 0) w
    have g4 := RB.new (.int .i64 0) (.int .i64 0) (.slice none 0 0) w
    obtain ⟨w1, hw1⟩ : ∃ w1, w1 = w.alloc (.cells #[.int .i64 0, .int .i64 0, .slice none 0 0] 49) := ⟨_, rfl⟩
    rw [← hw1] at g1 g2 g3 g4 hw0
    have h1 : Below w1.heap.size w1 w0 := by rw [hw0]; exact (Below.refl _ _).alloc (Nat.le_refl _) _
    refine ⟨bel_up' g1 h1, g4.keep h1, ?_⟩
    rw [← g3, hw0]
    exact arg_lsf [2, 0, 1, 2, 1, 1] w1
  have HE : Hid (∀ wx, Below w0.heap.size w0 wx → Calls Try.prog 70 #[.int .i64 3, .int .i64 11, .slice (some ⟨w.heap.size + 1, 0, none⟩) 6 6] wx fun x w' => ∃ k R ro rc, x = .returned (.agg #[.int .i64 3, .int .i64 12, .slice ro k rc]) ∧ MV wx.heap.size (.slice ro k rc) k 12 R w' ∧ Red F3 12 6 (fun i => xtd F3 11 (psh i F3g)) k R ∧ Below wx.heap.size wx w') := fun wx hx => by
    exact gext_any (n := 11) F3_in (HW.out.2.2.below hx) (by omega) F3g_el F3g_bd (by decide) (by omega) (by omega) (K := 6) (by omega) F3q_el F3q_bd (by decide) F3_mul
  go_enter Try.func27, Try.ntmps27
  go_wp2_with fail
  rw [← hw0]
  clear hw0
  refine (HE.out _ (Below.refl _ _)).mono ?_
  rintro x w2 ⟨k, R, ro, rc, rfl, hmv, hred, hb2⟩
  have H2 : Hid (MV w0.heap.size (.slice ro k rc) k 12 R w2 ∧ Red F3 12 6 (fun i => xtd F3 11 (psh i F3g)) k R ∧ Below w.heap.size w w2 ∧ RB w.heap.size w2 ∧ w.heap.size < w0.heap.size) := ⟨hmv, hred, bel_up' HW.out.1 hb2, HW.out.2.1.keep hb2, by obtain ⟨⟨x0, c0⟩, _⟩ := HW.out.2.1; exact cell_lt c0⟩
  clear hmv hred hb2
  obtain ⟨⟨x0, c0⟩, ⟨x1, c1⟩, ⟨x2, c2⟩, f0, f1, f2⟩ := H2.out.2.2.2.1
  go_wp2
  obtain ⟨w3, hw3⟩ : ∃ w3, w3 = laid w2 w.heap.size 3 12 (.slice ro k rc) := ⟨_, rfl⟩
  have H3 : Hid (CB w.heap.size 3 12 (.slice ro k rc) w3 ∧ RL (.slice ro k rc) k 12 R w3 ∧ Below w.heap.size w w3) := by
    rw [hw3]; exact ⟨laid_cb H2.out.2.2.2.1 _ _ _, (laid_mv H2.out.1 H2.out.2.2.2.2 _ _ _).rl, laid_below H2.out.2.2.1 (Nat.le_refl _) _ _ _⟩
  unfold laid at hw3
  rw [← hw3]
  clear hw3 c0 c1 c2 f0 f1 f2
  obtain ⟨c0, c1, c2⟩ := H3.out.1
  refine bodyPost_ret (v := .agg #[.int .i64 3, .int .i64 12, .slice ro k rc]) (by simp [results, Try.results27, go_sem, c0, c1, c2]) rfl ?_
  exact ⟨_, R, _, _, rfl, H3.out.2.1, H2.out.2.1, H3.out.2.2⟩

set_option maxHeartbeats 8000000 in
set_option maxRecDepth 100000 in
theorem golayIs_walk (w : World) :
    Calls Try.prog 6 #[] w fun r w' => r = .returned (.bool true) ∧ Below w.heap.size w w' := by
  go_enter Try.func6, Try.ntmps6
  go_wp2_with fail
  refine (binary_any w).mono ?_
  rintro x w1 ⟨k, R, ro, rc, rfl, hrl, hred, hb⟩
  obtain ⟨w2, hw2⟩ : ∃ w2, w2 = w1.alloc (.cells #[.int .i64 1, .int .i64 0, .int .i64 1, .int .i64 0, .int .i64 1, .int .i64 1, .int .i64 1, .int .i64 0, .int .i64 0, .int .i64 0, .int .i64 1, .int .i64 1] 3) := ⟨_, rfl⟩
  have H02 : Hid (RL (.slice ro k rc) k 24 R w2 ∧ Red F2 24 12 (fun i => xtd F2 23 (psh i F2g)) k R ∧ Below w.heap.size w w2 ∧ Arg (some ⟨w1.heap.size, 0, none⟩) 12 12 (fun j => ((F2g j : Nat) : Int)) w2) := by
    have hal : Below w1.heap.size w1 w2 := by rw [hw2]; exact (Below.refl _ _).alloc (Nat.le_refl _) _
    refine ⟨hrl.below hal, hred, bel_up' hb hal, ?_⟩
    rw [hw2]; exact arg_lsf [1, 0, 1, 0, 1, 1, 1, 0, 0, 0, 1, 1] w1
  clear hrl hred hb
  have HG0 : Hid (Calls Try.prog 26 #[.int .i64 2, .int .i64 23, .slice (some ⟨w1.heap.size, 0, none⟩) 12 12] w2 fun x w' => ∃ k R ro rc, x = .returned (.agg #[.int .i64 2, .int .i64 24, .slice ro k rc]) ∧ LLs w2.heap.size (.slice ro k rc) (rl k 23 R) w' ∧ Red F2 24 12 (fun i => xtd F2 23 (psh i F2g)) k R ∧ Below w2.heap.size w2 w') :=
    rgolay_any F2_in H02.out.2.2.2 F2g_el F2g_bd (n := 23) (n1 := 22) (by omega) (by omega) (by omega) (K := 12) (by omega)
  go_wp2_with fail
  rw [← hw2]
  clear hw2
  refine HG0.out.mono ?_
  rintro x w3 ⟨k', R', ro', rc', rfl, hl, hred', hb⟩
  obtain ⟨hk, he⟩ := H02.out.2.1.uniq (fld F2_in) hred' (fun _ => Iff.rfl)
  subst hk
  have H03 : Hid (RL (.slice ro k rc) k 24 R w3 ∧ RL (.slice ro' k rc') k 24 R w3 ∧ Below w.heap.size w w3 ∧ k ≤ 24) := ⟨H02.out.1.below hb, (hl.rlz (by omega)).rl.congr (fun i hi => (he i hi).symm), bel_up' H02.out.2.2.1 hb, H02.out.2.1.le⟩
  clear hl hred' hb he HG0 H02
  go_wp2_with fail
  refine (rsameCode_any 2 24 H03.out.1 H03.out.2.1 (by have := H03.out.2.2.2; omega) (by omega)).mono ?_
  rintro x w4 ⟨rfl, hb⟩
  have H4 : Hid (Below w.heap.size w w4) := bel_up' H03.out.2.2.1 hb
  clear hb H03
  go_wp2_with fail
  refine (ternary_any w4).mono ?_
  rintro x w5 ⟨k, R, ro, rc, rfl, hrl, hred, hb⟩
  obtain ⟨w6, hw6⟩ : ∃ w6, w6 = w5.alloc (.cells #[.int .i64 2, .int .i64 0, .int .i64 1, .int .i64 2, .int .i64 1, .int .i64 1] 3) := ⟨_, rfl⟩
  have H12 : Hid (RL (.slice ro k rc) k 12 R w6 ∧ Red F3 12 6 (fun i => xtd F3 11 (psh i F3g)) k R ∧ Below w.heap.size w w6 ∧ Arg (some ⟨w5.heap.size, 0, none⟩) 6 6 (fun j => ((F3g j : Nat) : Int)) w6) := by
    have hal : Below w5.heap.size w5 w6 := by rw [hw6]; exact (Below.refl _ _).alloc (Nat.le_refl _) _
    refine ⟨hrl.below hal, hred, bel_up' H4.out (bel_up' hb hal), ?_⟩
    rw [hw6]; exact arg_lsf [2, 0, 1, 2, 1, 1] w5
  clear hrl hred hb
  have HG1 : Hid (Calls Try.prog 26 #[.int .i64 3, .int .i64 11, .slice (some ⟨w5.heap.size, 0, none⟩) 6 6] w6 fun x w' => ∃ k R ro rc, x = .returned (.agg #[.int .i64 3, .int .i64 12, .slice ro k rc]) ∧ LLs w6.heap.size (.slice ro k rc) (rl k 11 R) w' ∧ Red F3 12 6 (fun i => xtd F3 11 (psh i F3g)) k R ∧ Below w6.heap.size w6 w') :=
    rgolay_any F3_in H12.out.2.2.2 F3g_el F3g_bd (n := 11) (n1 := 10) (by omega) (by omega) (by omega) (K := 6) (by omega)
  go_wp2_with fail
  rw [← hw6]
  clear hw6
  refine HG1.out.mono ?_
  rintro x w7 ⟨k', R', ro', rc', rfl, hl, hred', hb⟩
  obtain ⟨hk, he⟩ := H12.out.2.1.uniq (fld F3_in) hred' (fun _ => Iff.rfl)
  subst hk
  have H13 : Hid (RL (.slice ro k rc) k 12 R w7 ∧ RL (.slice ro' k rc') k 12 R w7 ∧ Below w.heap.size w w7 ∧ k ≤ 12) := ⟨H12.out.1.below hb, (hl.rlz (by omega)).rl.congr (fun i hi => (he i hi).symm), bel_up' H12.out.2.2.1 hb, H12.out.2.1.le⟩
  clear hl hred' hb he HG1 H12
  go_wp2_with fail
  refine (rsameCode_any 3 12 H13.out.1 H13.out.2.1 (by have := H13.out.2.2.2; omega) (by omega)).mono ?_
  rintro x w8 ⟨rfl, hb⟩
  have H8 : Hid (Below w.heap.size w w8) := bel_up' H13.out.2.2.1 hb
  clear hb H13
  go_wp2
  go_ret
  exact ⟨by first | rfl | simp, H8.out⟩
end Go.Proofs.Ytjkncdmbcckcdaa
