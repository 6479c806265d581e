/- MatrixSays: the walk of the statement, whatever it is given. -/
import Derived.Test.YtbpeahhhkcljeaaZL16
namespace Go.Proofs.Ytbpeahhhkcljeaa
open Go.RowKit Go.Sort

set_option maxHeartbeats 8000000 in
set_option maxRecDepth 100000 in
theorem msays_err (q e1 e2 : Int) (he : e2 ≠ 0) (hcase : e1 = 0 ∨ e1 = e2) {ao bo yo : Option Addr} {m m' my ca cb cy : Nat} {w : World}
    (hHa : Calls Try.prog 9 #[.slice ao m ca] w fun r w' => r = .returned (.bool false) ∧ w' = w) (hHb : Calls Try.prog 9 #[.slice bo m' cb] w fun r w' => r = .returned (.bool false) ∧ w' = w) (hmy : my ≤ 100)
    (hMa : ∀ w1, Below w.heap.size w w1 → Calls Try.prog 10 #[.int .i64 q, .slice ao m ca] w1 fun r w' => r = .returned (.int .i64 e1) ∧ Below w1.heap.size w1 w')
    (hMb : e1 = 0 → ∀ w1, Below w.heap.size w w1 → Calls Try.prog 10 #[.int .i64 q, .slice bo m' cb] w1 fun r w' => r = .returned (.int .i64 e2) ∧ Below w1.heap.size w1 w')
    (hFi : ∀ w1, Below w.heap.size w w1 → Calls Try.prog 11 #[.int .i64 q] w1 fun r w' => ∃ x0 x1 x2 x3 x4 x5 x6 e0, r = .returned (.tuple #[.agg #[.int .i64 x0, .int .i64 x1, .int .i64 x2, .int .i64 x3, .slice x4 x5 x6], .int .i64 e0]) ∧ Below w1.heap.size w1 w')
    (hTi : ∀ w1, Below w.heap.size w w1 → Calls Try.prog 13 #[.int .i64 q, .slice ao m ca, .slice bo m' cb] w1 fun r w' => r = .returned (.tuple #[.slice none 0 0, .int .i64 e2]) ∧ Below w1.heap.size w1 w')
    (hCk : ∀ w1, Below w.heap.size w w1 → Calls Try.prog 14 #[.int .i64 q, .slice ao m ca] w1 fun r w' => r = .returned (.int .i64 e1) ∧ Below w1.heap.size w1 w')
    (hOn : ∀ w1, Below w.heap.size w w1 → Calls Try.prog 16 #[.int .i64 q, .slice ao m ca, .slice yo my cy, .int .i64 e1] w1 fun r w' => r = .returned (.bool true) ∧ Below w1.heap.size w1 w') :
    Calls Try.prog 3 #[.int .i64 q, .slice ao m ca, .slice bo m' cb, .slice yo my cy] w fun r w' => r = .returned (.bool true) ∧ Below w.heap.size w w' := by
  have HHa : Hid (Calls Try.prog 9 #[.slice ao m ca] w fun r w' => r = .returned (.bool false) ∧ w' = w) := hHa
  have HHb : Hid (Calls Try.prog 9 #[.slice bo m' cb] w fun r w' => r = .returned (.bool false) ∧ w' = w) := hHb
  have HMa : Hid (∀ w1, Below w.heap.size w w1 → Calls Try.prog 10 #[.int .i64 q, .slice ao m ca] w1 fun r w' => r = .returned (.int .i64 e1) ∧ Below w1.heap.size w1 w') := hMa
  have HMb : Hid (e1 = 0 → ∀ w1, Below w.heap.size w w1 → Calls Try.prog 10 #[.int .i64 q, .slice bo m' cb] w1 fun r w' => r = .returned (.int .i64 e2) ∧ Below w1.heap.size w1 w') := hMb
  have HFi : Hid (∀ w1, Below w.heap.size w w1 → Calls Try.prog 11 #[.int .i64 q] w1 fun r w' => ∃ x0 x1 x2 x3 x4 x5 x6 e0, r = .returned (.tuple #[.agg #[.int .i64 x0, .int .i64 x1, .int .i64 x2, .int .i64 x3, .slice x4 x5 x6], .int .i64 e0]) ∧ Below w1.heap.size w1 w') := hFi
  have HTi : Hid (∀ w1, Below w.heap.size w w1 → Calls Try.prog 13 #[.int .i64 q, .slice ao m ca, .slice bo m' cb] w1 fun r w' => r = .returned (.tuple #[.slice none 0 0, .int .i64 e2]) ∧ Below w1.heap.size w1 w') := hTi
  have HCk : Hid (∀ w1, Below w.heap.size w w1 → Calls Try.prog 14 #[.int .i64 q, .slice ao m ca] w1 fun r w' => r = .returned (.int .i64 e1) ∧ Below w1.heap.size w1 w') := hCk
  have HOn : Hid (∀ w1, Below w.heap.size w w1 → Calls Try.prog 16 #[.int .i64 q, .slice ao m ca, .slice yo my cy, .int .i64 e1] w1 fun r w' => r = .returned (.bool true) ∧ Below w1.heap.size w1 w') := hOn
  have HE : Hid (e2 ≠ 0) := he
  have hyb : ¬ (100 : Int) < (my : Int) := by omega
  have hz2 : (e2 == 0) = false := by rw [beq_eq_false_iff_ne]; exact he
  have hz1 : (e1 != e1) = false := by simp
  clear hHa hHb hMa hMb hFi hTi hCk hOn hmy
  go_enter Try.func3, Try.ntmps3
  go_wp2_with fail
  refine HHa.out.mono ?_
  rintro r w' ⟨rfl, hw⟩
  have hw := hw.symm
  subst hw
  go_wp2_with fail
  refine HHb.out.mono ?_
  rintro r w' ⟨rfl, hw⟩
  have hw := hw.symm
  subst hw
  go_wp2_with fail
  refine (HMa.out _ (Below.refl _ _)).mono ?_
  rintro r w1 ⟨rfl, hb1⟩
  have H1 : Hid (Below w.heap.size w w1) := hb1
  clear hb1
  by_cases h1 : e1 = 0
  · have HMb2 := HMb.out h1
    have HMb3 : Hid (∀ w1, Below w.heap.size w w1 → Calls Try.prog 10 #[.int .i64 q, .slice bo m' cb] w1 fun r w' => r = .returned (.int .i64 e2) ∧ Below w1.heap.size w1 w') := HMb2
    clear HMb HMb2 hcase he
    subst h1
    go_wp2_with fail
    refine (HMb3.out _ H1.out).mono ?_
    rintro r w2 ⟨rfl, hb2⟩
    have H2 : Hid (Below w.heap.size w w2) := bel_up' H1.out hb2
    clear hb2
    go_wp2_with fail
    refine (HFi.out _ H2.out).mono ?_
    rintro r w3 ⟨x0, x1, x2, x3, x4, x5, x6, e0, rfl, hb3⟩
    have H3 : Hid (Below w.heap.size w (w3.alloc (.cells #[.int .i64 x0, .int .i64 x1, .int .i64 x2, .int .i64 x3, .slice x4 x5 x6] 28))) := (bel_up' H2.out hb3).alloc (bel_up' H2.out hb3).size _
    clear hb3
    go_wp2_with fail
    refine (HTi.out _ H3.out).mono ?_
    rintro r w4 ⟨rfl, hb4⟩
    have H4 : Hid (Below w.heap.size w w4) := bel_up' H3.out hb4
    clear hb4
    go_wp2_with fail
    refine (HCk.out _ H4.out).mono ?_
    rintro r w5 ⟨rfl, hb5⟩
    have H5 : Hid (Below w.heap.size w w5) := bel_up' H4.out hb5
    clear hb5
    go_wp2_with fail
    refine (lists_err2 _ HE.out _ _ _ _).mono ?_
    rintro r w6 ⟨rfl, hw⟩
    have hw := hw.symm
    subst hw
    go_wp2_with fail
    refine (HOn.out _ H5.out).mono ?_
    rintro r w7 ⟨rfl, hb7⟩
    have H7 : Hid (Below w.heap.size w w7) := bel_up' H5.out hb7
    clear hb7
    go_wp2
    go_ret
    exact ⟨rfl, H7.out⟩
  · have h2 : e1 = e2 := by rcases hcase with h | h; exact absurd h h1; exact h
    subst h2
    clear HMb hcase he h1
    go_wp2_with fail
    have H2 : Hid (Below w.heap.size w w1) := H1.out
    refine (HFi.out _ H2.out).mono ?_
    rintro r w3 ⟨x0, x1, x2, x3, x4, x5, x6, e0, rfl, hb3⟩
    have H3 : Hid (Below w.heap.size w (w3.alloc (.cells #[.int .i64 x0, .int .i64 x1, .int .i64 x2, .int .i64 x3, .slice x4 x5 x6] 28))) := (bel_up' H2.out hb3).alloc (bel_up' H2.out hb3).size _
    clear hb3
    go_wp2_with fail
    refine (HTi.out _ H3.out).mono ?_
    rintro r w4 ⟨rfl, hb4⟩
    have H4 : Hid (Below w.heap.size w w4) := bel_up' H3.out hb4
    clear hb4
    go_wp2_with fail
    refine (HCk.out _ H4.out).mono ?_
    rintro r w5 ⟨rfl, hb5⟩
    have H5 : Hid (Below w.heap.size w w5) := bel_up' H4.out hb5
    clear hb5
    go_wp2_with fail
    refine (lists_err2 _ HE.out _ _ _ _).mono ?_
    rintro r w6 ⟨rfl, hw⟩
    have hw := hw.symm
    subst hw
    go_wp2_with fail
    refine (HOn.out _ H5.out).mono ?_
    rintro r w7 ⟨rfl, hb7⟩
    have H7 : Hid (Below w.heap.size w w7) := bel_up' H5.out hb7
    clear hb7
    go_wp2
    go_ret
    exact ⟨rfl, H7.out⟩

set_option maxHeartbeats 8000000 in
set_option maxRecDepth 100000 in
/-- Both may be, and don't fit, or the first has no row. -/
theorem msays_no {D : FD} (hD : D ∈ fieldsL) {e : Int} {ao bo yo : Option Addr} {m m' my ca cb cy : Nat} {A : Nat → Option Addr} {N C : Nat → Nat} {Z : Nat → Nat → Int} {w : World} (ha : MatZ ao m A N C Z w) (hcase : (m = 0 ∧ e = 0) ∨ (0 < m ∧ N 0 ≠ m' ∧ e = 3))
    (hHa : Calls Try.prog 9 #[.slice ao m ca] w fun r w' => r = .returned (.bool false) ∧ w' = w) (hHb : Calls Try.prog 9 #[.slice bo m' cb] w fun r w' => r = .returned (.bool false) ∧ w' = w) (hmy : my ≤ 100)
    (hMa : ∀ w1, Below w.heap.size w w1 → Calls Try.prog 10 #[.int .i64 D.q, .slice ao m ca] w1 fun r w' => r = .returned (.int .i64 0) ∧ Below w1.heap.size w1 w')
    (hMb : ∀ w1, Below w.heap.size w w1 → Calls Try.prog 10 #[.int .i64 D.q, .slice bo m' cb] w1 fun r w' => r = .returned (.int .i64 0) ∧ Below w1.heap.size w1 w')
    (hTi : ∀ w1, Below w.heap.size w w1 → Calls Try.prog 13 #[.int .i64 D.q, .slice ao m ca, .slice bo m' cb] w1 fun r w' => r = .returned (.tuple #[.slice none 0 0, .int .i64 e]) ∧ Below w1.heap.size w1 w')
    (hCk : ∀ w1, Below w.heap.size w w1 → Calls Try.prog 14 #[.int .i64 D.q, .slice ao m ca] w1 fun r w' => r = .returned (.int .i64 0) ∧ Below w1.heap.size w1 w')
    (hOn : ∀ w1, Below w.heap.size w w1 → Calls Try.prog 16 #[.int .i64 D.q, .slice ao m ca, .slice yo my cy, .int .i64 0] w1 fun r w' => r = .returned (.bool true) ∧ Below w1.heap.size w1 w') :
    Calls Try.prog 3 #[.int .i64 D.q, .slice ao m ca, .slice bo m' cb, .slice yo my cy] w fun r w' => r = .returned (.bool true) ∧ Below w.heap.size w w' := by
  have HHa : Hid (Calls Try.prog 9 #[.slice ao m ca] w fun r w' => r = .returned (.bool false) ∧ w' = w) := hHa
  have HHb : Hid (Calls Try.prog 9 #[.slice bo m' cb] w fun r w' => r = .returned (.bool false) ∧ w' = w) := hHb
  have HMa : Hid (∀ w1, Below w.heap.size w w1 → Calls Try.prog 10 #[.int .i64 D.q, .slice ao m ca] w1 fun r w' => r = .returned (.int .i64 0) ∧ Below w1.heap.size w1 w') := hMa
  have HMb : Hid (∀ w1, Below w.heap.size w w1 → Calls Try.prog 10 #[.int .i64 D.q, .slice bo m' cb] w1 fun r w' => r = .returned (.int .i64 0) ∧ Below w1.heap.size w1 w') := hMb
  have HTi : Hid (∀ w1, Below w.heap.size w w1 → Calls Try.prog 13 #[.int .i64 D.q, .slice ao m ca, .slice bo m' cb] w1 fun r w' => r = .returned (.tuple #[.slice none 0 0, .int .i64 e]) ∧ Below w1.heap.size w1 w') := hTi
  have HCk : Hid (∀ w1, Below w.heap.size w w1 → Calls Try.prog 14 #[.int .i64 D.q, .slice ao m ca] w1 fun r w' => r = .returned (.int .i64 0) ∧ Below w1.heap.size w1 w') := hCk
  have HOn : Hid (∀ w1, Below w.heap.size w w1 → Calls Try.prog 16 #[.int .i64 D.q, .slice ao m ca, .slice yo my cy, .int .i64 0] w1 fun r w' => r = .returned (.bool true) ∧ Below w1.heap.size w1 w') := hOn
  have HD : Hid (D ∈ fieldsL ∧ MatZ ao m A N C Z w) := ⟨hD, ha⟩
  have hyb : ¬ (100 : Int) < (my : Int) := by omega
  have HLi : Hid (∀ wx, e = 0 → Calls Try.prog 15 #[.slice none 0 0, .int .i64 0, .slice none 0 0, .int .i64 0] wx fun r w' => r = .returned (.bool true) ∧ Below wx.heap.size wx w') := fun wx _ => by
    refine (lists_rl (k := 0) (n := 0) (R := fun _ => pnil) (RL.nil _ _ _) (RL.nil _ _ _) (by omega) (by omega)).mono ?_
    rintro r w' ⟨rfl, d, rfl⟩
    exact ⟨rfl, ⟨rfl, rfl, rfl, Nat.le_refl _, fun _ _ => rfl⟩⟩
  clear hHa hHb hMa hMb hTi hCk hOn hmy hD ha
  go_enter Try.func3, Try.ntmps3
  go_wp2_with fail
  refine HHa.out.mono ?_
  rintro r w' ⟨rfl, hw⟩
  have hw := hw.symm
  subst hw
  go_wp2_with fail
  refine HHb.out.mono ?_
  rintro r w' ⟨rfl, hw⟩
  have hw := hw.symm
  subst hw
  go_wp2_with fail
  refine (HMa.out _ (Below.refl _ _)).mono ?_
  rintro r w1 ⟨rfl, hb1⟩
  have H1 : Hid (Below w.heap.size w w1) := hb1
  clear hb1
  go_wp2_with fail
  refine (HMb.out _ H1.out).mono ?_
  rintro r w2 ⟨rfl, hb2⟩
  have H2 : Hid (Below w.heap.size w w2) := bel_up' H1.out hb2
  clear hb2
  rcases hcase with ⟨hm0, rfl⟩ | ⟨hm0, hne, rfl⟩
  · subst hm0
    go_wp2_with fail
    refine (rfield_sl HD.out.1 w2).mono ?_
    rintro r w3 ⟨gm, cm, rfl, _, hb3⟩
    unfold rf
    have H3 : Hid (Below w.heap.size w (w3.alloc (.cells #[.int .i64 D.q, .int .i64 D.p, .int .i64 D.m, .int .i64 D.gen, .slice (some ⟨gm, 0, none⟩) (D.m + 1) cm] 28))) := (bel_up' H2.out hb3).alloc (bel_up' H2.out hb3).size _
    clear hb3
    go_wp2_with fail
    refine (HTi.out _ H3.out).mono ?_
    rintro r w4 ⟨rfl, hb4⟩
    have H4 : Hid (Below w.heap.size w w4) := bel_up' H3.out hb4
    clear hb4
    go_wp2_with fail
    refine (HCk.out _ H4.out).mono ?_
    rintro r w5 ⟨rfl, hb5⟩
    have H5 : Hid (Below w.heap.size w w5) := bel_up' H4.out hb5
    clear hb5
    go_wp2_with fail
    refine (HLi.out _ trivial).mono ?_
    rintro r w6 ⟨rfl, hb6⟩
    have H6 : Hid (Below w.heap.size w w6) := bel_up' H5.out hb6
    clear hb6
    go_wp2_with fail
    refine (HOn.out _ H6.out).mono ?_
    rintro r w7 ⟨rfl, hb7⟩
    have H7 : Hid (Below w.heap.size w w7) := bel_up' H6.out hb7
    clear hb7
    go_wp2
    go_ret
    exact ⟨rfl, H7.out⟩
  · have hmi : (0 : Int) < (m : Int) := by omega
    obtain ⟨bA, oA, eA, hcA⟩ := (HD.out.2.below H2.out).cell 0 hm0
    rw [show oA + 0 = oA from rfl] at hcA
    subst eA
    obtain ⟨n0, hn0⟩ : ∃ n0, n0 = N 0 := ⟨_, rfl⟩
    rw [← hn0] at hcA hne
    have hz : ((n0 : Int) != (m' : Int)) = true := by rw [bne_iff_ne]; omega
    clear hn0 hne
    go_wp2_with fail
    refine (rfield_sl HD.out.1 w2).mono ?_
    rintro r w3 ⟨gm, cm, rfl, _, hb3⟩
    unfold rf
    have H3 : Hid (Below w.heap.size w (w3.alloc (.cells #[.int .i64 D.q, .int .i64 D.p, .int .i64 D.m, .int .i64 D.gen, .slice (some ⟨gm, 0, none⟩) (D.m + 1) cm] 28))) := (bel_up' H2.out hb3).alloc (bel_up' H2.out hb3).size _
    clear hb3
    go_wp2_with fail
    refine (HTi.out _ H3.out).mono ?_
    rintro r w4 ⟨rfl, hb4⟩
    have H4 : Hid (Below w.heap.size w w4) := bel_up' H3.out hb4
    clear hb4
    go_wp2_with fail
    refine (HCk.out _ H4.out).mono ?_
    rintro r w5 ⟨rfl, hb5⟩
    have H5 : Hid (Below w.heap.size w w5) := bel_up' H4.out hb5
    clear hb5
    go_wp2_with fail
    refine (lists_err2 3 (by omega) _ _ _ _).mono ?_
    rintro r w6 ⟨rfl, hw⟩
    have hw := hw.symm
    subst hw
    have H6 := H5
    go_wp2_with fail
    refine (HOn.out _ H6.out).mono ?_
    rintro r w7 ⟨rfl, hb7⟩
    have H7 : Hid (Below w.heap.size w w7) := bel_up' H6.out hb7
    clear hb7
    go_wp2
    go_ret
    exact ⟨rfl, H7.out⟩

set_option maxHeartbeats 8000000 in
set_option maxRecDepth 100000 in
/-- Both may be, and fit. -/
theorem msays_yes {D : FD} (hD : D ∈ fieldsL) {ao bo yo : Option Addr} {m l n my ca cb cy : Nat} {A A' : Nat → Option Addr} {N C N' C' : Nat → Nat} {Z Z' : Nat → Nat → Int} {w : World} (ha : MatZ ao m A N C Z w) (hb : MatZ bo (l + 1) A' N' C' Z' w) (h0 : D.mchk m N Z = 0) (h0' : D.mchk (l + 1) N' Z' = 0) (hm : 0 < m) (hN : N 0 = l + 1) (hN' : N' 0 = n + 1)
    (hHa : Calls Try.prog 9 #[.slice ao m ca] w fun r w' => r = .returned (.bool false) ∧ w' = w) (hHb : Calls Try.prog 9 #[.slice bo (l + 1) cb] w fun r w' => r = .returned (.bool false) ∧ w' = w) (hmy : my ≤ 100)
    (hOn : ∀ w1, Below w.heap.size w w1 → Calls Try.prog 16 #[.int .i64 D.q, .slice ao m ca, .slice yo my cy, .int .i64 0] w1 fun r w' => r = .returned (.bool true) ∧ Below w1.heap.size w1 w') :
    Calls Try.prog 3 #[.int .i64 D.q, .slice ao m ca, .slice bo (l + 1) cb, .slice yo my cy] w fun r w' => r = .returned (.bool true) ∧ Below w.heap.size w w' := by
  have F := fld hD
  obtain ⟨m64, l', e1, l64, hrowsA, _⟩ := mchk_rows F h0 ha hm
  obtain ⟨_, n', e2, n64, hrowsB, _⟩ := mchk_rows F h0' hb (by omega)
  have el : l' = l := by omega
  have en : n' = n := by omega
  subst el en
  have HD : Hid (D ∈ fieldsL ∧ MatZ ao m A N C Z w ∧ MatZ bo (l' + 1) A' N' C' Z' w ∧ (∀ i, i < m → El D (mzc N Z i)) ∧ ∀ i, i < l' + 1 → El D (mzc N' Z' i)) := ⟨hD, ha, hb, fun i hi => (hrowsA i hi).2.1, fun i hi => (hrowsB i hi).2.1⟩
  have HMR : Hid ((∀ wx, Below w.heap.size w wx → MatR ao m l' (mzc N Z) wx) ∧ ∀ wx, Below w.heap.size w wx → MatR bo (l' + 1) n' (mzc N' Z') wx) := by
    refine ⟨fun wx hx => ?_, fun wx hx => ?_⟩
    · obtain ⟨_, l2, e3, _, _, h5⟩ := mchk_rows F h0 (ha.below hx) hm
      have : l2 = l' := by omega
      rw [← this]; exact h5
    · obtain ⟨_, l2, e3, _, _, h5⟩ := mchk_rows F h0' (hb.below hx) (by omega)
      have : l2 = n' := by omega
      rw [← this]; exact h5
  have HHa : Hid (Calls Try.prog 9 #[.slice ao m ca] w fun r w' => r = .returned (.bool false) ∧ w' = w) := hHa
  have HHb : Hid (Calls Try.prog 9 #[.slice bo (l' + 1) cb] w fun r w' => r = .returned (.bool false) ∧ w' = w) := hHb
  have HMa : Hid (∀ w1, Below w.heap.size w w1 → Calls Try.prog 10 #[.int .i64 D.q, .slice ao m ca] w1 fun r w' => r = .returned (.int .i64 0) ∧ Below w1.heap.size w1 w') := fun w1 h1 => by
    have h := matrixMay_any (ca := ca) hD (ha.below h1) (by omega)
    rw [h0] at h; exact h
  have HMb : Hid (∀ w1, Below w.heap.size w w1 → Calls Try.prog 10 #[.int .i64 D.q, .slice bo (l' + 1) cb] w1 fun r w' => r = .returned (.int .i64 0) ∧ Below w1.heap.size w1 w') := fun w1 h1 => by
    have h := matrixMay_any (ca := cb) hD (hb.below h1) (by omega)
    rw [h0'] at h; exact h
  have HCk : Hid (∀ w1, Below w.heap.size w w1 → Calls Try.prog 14 #[.int .i64 D.q, .slice ao m ca] w1 fun r w' => r = .returned (.int .i64 0) ∧ Below w1.heap.size w1 w') := fun w1 h1 => by
    have h := mcheck_any (ca := ca) hD (ha.below h1) (by omega)
    rw [h0] at h; exact h
  have HTi : Hid (∀ w1, Below w.heap.size w w1 → Calls Try.prog 13 #[.int .i64 D.q, .slice ao m ca, .slice bo (l' + 1) cb] w1 fun r w' => (∃ lo lc, r = .returned (.tuple #[.slice lo m lc, .int .i64 0]) ∧ RL (.slice lo m lc) m (n' + 1) (fun i => prodR D (mzc N Z i) (mzc N' Z') (l' + 1)) w') ∧ Below w1.heap.size w1 w') := fun w1 h1 => by
    refine (times_any hD (ha.below h1) (hb.below h1) (by omega) (by omega)).mono ?_
    rintro e w' ⟨hbb, hr⟩
    have h2 : D.mchk2 m N Z (l' + 1) N' Z' = 0 := by unfold FD.mchk2; rw [if_pos h0, h0']
    rcases hr with ⟨h, _⟩ | ⟨_, h, _⟩ | ⟨_, _, h, _⟩ | ⟨_, _, _, G, hh, rfl, _, hmx⟩
    · exact absurd h2 h
    · omega
    · exact absurd hN h
    · refine ⟨⟨_, _, rfl, ?_⟩, hbb⟩
      have h3 := hmx.rl (Nat.le_refl _) m
      rw [hN'] at h3; exact h3
  have HOn : Hid (∀ w1, Below w.heap.size w w1 → Calls Try.prog 16 #[.int .i64 D.q, .slice ao m ca, .slice yo my cy, .int .i64 0] w1 fun r w' => r = .returned (.bool true) ∧ Below w1.heap.size w1 w') := hOn
  have hyb : ¬ (100 : Int) < (my : Int) := by omega
  have hmi : (0 : Int) < (m : Int) := by omega
  have HNN : Hid (N 0 = l' + 1) := hN
  clear hHa hHb hOn hmy hD ha hb h0 h0' hN hN' e1 e2 hrowsA hrowsB F
  go_enter Try.func3, Try.ntmps3
  go_wp2_with fail
  refine HHa.out.mono ?_
  rintro r w' ⟨rfl, hw⟩
  have hw := hw.symm
  subst hw
  go_wp2_with fail
  refine HHb.out.mono ?_
  rintro r w' ⟨rfl, hw⟩
  have hw := hw.symm
  subst hw
  go_wp2_with fail
  refine (HMa.out _ (Below.refl _ _)).mono ?_
  rintro r w1 ⟨rfl, hb1⟩
  have H1 : Hid (Below w.heap.size w w1) := hb1
  clear hb1
  go_wp2_with fail
  refine (HMb.out _ H1.out).mono ?_
  rintro r w2 ⟨rfl, hb2⟩
  have H2 : Hid (Below w.heap.size w w2) := bel_up' H1.out hb2
  clear hb2
  obtain ⟨bA, oA, eA, hcA⟩ := (HD.out.2.1.below H2.out).cell 0 hm
  rw [show oA + 0 = oA from rfl, HNN.out] at hcA
  subst eA
  go_wp2_with fail
  refine (rfield_sl HD.out.1 w2).mono ?_
  rintro r w3 ⟨gm, cm, rfl, hmod, hb3⟩
  unfold rf
  obtain ⟨wa, hwa⟩ : ∃ wa, wa = w3.alloc (.cells #[.int .i64 D.q, .int .i64 D.p, .int .i64 D.m, .int .i64 D.gen, .slice (some ⟨gm, 0, none⟩) (D.m + 1) cm] 28) := ⟨_, rfl⟩
  have HX : Hid (Below w.heap.size w wa ∧ ModAt D (.slice (some ⟨gm, 0, none⟩) (D.m + 1) cm) D.md wa) := by
    have hb : Below w3.heap.size w3 wa := by rw [hwa]; exact (Below.refl _ _).alloc (Nat.le_refl _) _
    exact ⟨bel_up' (bel_up' H2.out hb3) hb, hmod.below hb⟩
  obtain ⟨k0, k1, k2, k3, k4⟩ := box_new D D.gen (.slice (some ⟨gm, 0, none⟩) (D.m + 1) cm) w3
  clear hb3 hmod hcA
  go_wp2_with fail
  rw [← hwa]
  clear k0 k1 k2 k3 k4 hwa
  refine (rproduct_any HD.out.1 D.gen gm cm (by omega) (by omega) (by omega) HD.out.2.2.2.1 HD.out.2.2.2.2 (HMR.out.1 _ HX.out.1) (HMR.out.2 _ HX.out.1) HX.out.2).mono ?_
  rintro e w4 ⟨v, rfl, hll, hb4⟩
  have hrl := hll.rl
  obtain ⟨po, pc, rfl⟩ := hrl.open
  have H4 : Hid (RL (.slice po m pc) m (n' + 1) (fun i => prodR D (mzc N Z i) (mzc N' Z') (l' + 1)) w4 ∧ Below w.heap.size w w4) := ⟨hrl, bel_up' HX.out.1 hb4⟩
  clear hll hrl hb4
  go_wp2_with fail
  refine (HTi.out _ H4.out.2).mono ?_
  rintro r w5 ⟨⟨lo, lc, rfl, hrl⟩, hb5⟩
  have H5 : Hid (RL (.slice lo m lc) m (n' + 1) (fun i => prodR D (mzc N Z i) (mzc N' Z') (l' + 1)) w5 ∧ RL (.slice po m pc) m (n' + 1) (fun i => prodR D (mzc N Z i) (mzc N' Z') (l' + 1)) w5 ∧ Below w.heap.size w w5) := ⟨hrl, H4.out.1.below hb5, bel_up' H4.out.2 hb5⟩
  clear hrl hb5
  go_wp2_with fail
  refine (HCk.out _ H5.out.2.2).mono ?_
  rintro r w6 ⟨rfl, hb6⟩
  have H6 : Hid (RL (.slice lo m lc) m (n' + 1) (fun i => prodR D (mzc N Z i) (mzc N' Z') (l' + 1)) w6 ∧ RL (.slice po m pc) m (n' + 1) (fun i => prodR D (mzc N Z i) (mzc N' Z') (l' + 1)) w6 ∧ Below w.heap.size w w6) := ⟨H5.out.1.below hb6, H5.out.2.1.below hb6, bel_up' H5.out.2.2 hb6⟩
  clear hb6
  go_wp2_with fail
  refine (lists_rl H6.out.1 H6.out.2.1 (by omega) (by omega)).mono ?_
  rintro r w7 ⟨rfl, d, hw7⟩
  have H7 : Hid (Below w.heap.size w w7) := by rw [hw7]; exact bel_up' H6.out.2.2 ⟨rfl, rfl, rfl, Nat.le_refl _, fun _ _ => rfl⟩
  clear hw7
  go_wp2_with fail
  refine (HOn.out _ H7.out).mono ?_
  rintro r w8 ⟨rfl, hb8⟩
  have H8 : Hid (Below w.heap.size w w8) := bel_up' H7.out hb8
  clear hb8
  go_wp2
  go_ret
  exact ⟨rfl, H8.out⟩
end Go.Proofs.Ytbpeahhhkcljeaa
