/- ListsSay: the walk of the statement. -/
import Derived.Test.YtjkncdmbcckcdaaZQ8
import Derived.Test.YtjkncdmbcckcdaaZZ11
import Derived.Test.YtjkncdmbcckcdaaZX18
namespace Go.Proofs.Ytjkncdmbcckcdaa
open Go.RowKit Go.Sort

set_option maxHeartbeats 2000000 in
set_option maxRecDepth 100000 in
theorem ls_long (q k r t : Int) {xo yo : Option Addr} {n m cx cy : Nat} {w : World} (hn : n ≤ 17592186044416) (hm : m ≤ 17592186044416) (h : 200 < n + m) :
    Calls Try.prog 3 #[.int .i64 q, .slice xo n cx, .int .i64 k, .slice yo m cy, .int .i64 r, .int .i64 t] w fun x w' => x = .returned (.bool true) ∧ Below w.heap.size w w' := by
  obtain ⟨N, hN⟩ : ∃ N, N = n + m := ⟨_, rfl⟩
  have hw1 : IntKind.i64.wrap ((n : Int) + (m : Int)) = (N : Int) := wrap_to (by omega) (by omega)
  have h3 : (200 : Int) < (N : Int) := by omega
  clear hN h
  go_enter Try.func3, Try.ntmps3
  go_wp2
  go_ret
  exact ⟨rfl, Below.refl _ _⟩
set_option maxHeartbeats 4000000 in
set_option maxRecDepth 100000 in
theorem ls_err (q e k r t : Int) (he : e ≠ 0) {xo yo : Option Addr} {n m cx cy : Nat} {w : World} (hnm : n + m ≤ 200)
    (hW : Calls Try.prog 9 #[.int .i64 q, .slice xo n cx, .int .i64 k, .slice yo m cy] w fun x w' => x = .returned (.int .i64 e) ∧ Below w.heap.size w w')
    (hF : ∀ w1, Calls Try.prog 11 #[.int .i64 q] w1 fun x w' => ∃ a b c d so sn sc e0, x = .returned (.tuple #[.agg #[.int .i64 a, .int .i64 b, .int .i64 c, .int .i64 d, .slice so sn sc], .int .i64 e0]) ∧ Below w1.heap.size w1 w')
    (hC : ∀ w1, Below w.heap.size w w1 → Calls Try.prog 48 #[.int .i64 q, .slice xo n cx, .int .i64 k, .slice yo m cy] w1 fun x w' => x = .returned (.int .i64 e) ∧ Below w1.heap.size w1 w') :
    Calls Try.prog 3 #[.int .i64 q, .slice xo n cx, .int .i64 k, .slice yo m cy, .int .i64 r, .int .i64 t] w fun x w' => x = .returned (.bool true) ∧ Below w.heap.size w w' := by
  obtain ⟨N, hN⟩ : ∃ N, N = n + m := ⟨_, rfl⟩
  have hw1 : IntKind.i64.wrap ((n : Int) + (m : Int)) = (N : Int) := wrap_to (by omega) (by omega)
  have h3 : ¬ (200 : Int) < (N : Int) := by omega
  have HW : Hid (Calls Try.prog 9 #[.int .i64 q, .slice xo n cx, .int .i64 k, .slice yo m cy] w fun x w' => x = .returned (.int .i64 e) ∧ Below w.heap.size w w') := hW
  have HF : Hid (∀ w1, Calls Try.prog 11 #[.int .i64 q] w1 fun x w' => ∃ a b c d so sn sc e0, x = .returned (.tuple #[.agg #[.int .i64 a, .int .i64 b, .int .i64 c, .int .i64 d, .slice so sn sc], .int .i64 e0]) ∧ Below w1.heap.size w1 w') := hF
  have HC : Hid (∀ w1, Below w.heap.size w w1 → Calls Try.prog 48 #[.int .i64 q, .slice xo n cx, .int .i64 k, .slice yo m cy] w1 fun x w' => x = .returned (.int .i64 e) ∧ Below w1.heap.size w1 w') := hC
  have HE : Hid (e ≠ 0) := he
  have hz : (e == 0) = false := by rw [beq_eq_false_iff_ne]; exact he
  clear hW hF hC he hN hnm
  go_enter Try.func3, Try.ntmps3
  go_wp2_with fail
  refine HW.out.mono ?_
  rintro x w1 ⟨rfl, hb1⟩
  have H1 : Hid (Below w.heap.size w w1) := hb1
  clear hb1
  go_wp2_with fail
  refine (HF.out w1).mono ?_
  rintro x w2 ⟨a, b, c, d, so, sn, sc, e0, rfl, hb2⟩
  have H2 : Hid (∀ o, Below w.heap.size w (w2.alloc o)) := fun o => bel_up' (bel_up' H1.out hb2) ((Below.refl _ _).alloc (Nat.le_refl _) _)
  clear hb2
  go_wp2_with fail
  refine (within_err q e HE.out k r (HC.out _ (H2.out _))).mono ?_
  rintro x w3 ⟨rfl, hb3⟩
  have H3 : Hid (Below w.heap.size w w3) := bel_up' (H2.out _) hb3
  clear hb3
  go_wp2_with fail
  refine (lists_err2 e HE.out none 0 (.slice none 0 0) w3).mono ?_
  rintro x w' ⟨rfl, hw⟩
  have hw := hw.symm
  subst hw
  go_wp2_with fail
  refine (sudan_err q e HE.out k t (HC.out _ H3.out)).mono ?_
  rintro x w4 ⟨rfl, hb4⟩
  have H4 : Hid (Below w.heap.size w w4) := bel_up' H3.out hb4
  clear hb4
  go_wp2_with fail
  refine (lists_err2 e HE.out none 0 (.slice none 0 0) w4).mono ?_
  rintro x w' ⟨rfl, hw⟩
  have hw := hw.symm
  subst hw
  go_wp2
  go_ret
  exact ⟨rfl, H4.out⟩

theorem nrL_mem {D : FD} {k1 n : Nat} {xs y : Nat → Nat} {r : Int} : ∀ a, ∀ p ∈ nrL D k1 n xs y r a, p.1 = k1
  | 0, p, h => by simp [nrL] at h
  | a + 1, p, h => by
    have h : p ∈ nrL D k1 n xs y r a ++ if ((ct (fun i => !decide (D.ev (dgs D.q (k1 + 1) a) (xs i) (k1 + 1) = y i)) n : Nat) : Int) ≤ r then [(k1, dgs D.q (k1 + 1) a)] else [] := h
    rcases List.mem_append.1 h with h | h
    · exact nrL_mem a p h
    · split at h
      · rw [List.mem_singleton.1 h]
      · simp at h
set_option maxHeartbeats 16000000 in
set_option maxRecDepth 100000 in
theorem ls_any {D : FD} (hD : D ∈ fieldsL) {xo yo : Option Addr} {n cx m cy : Nat} {z y : Nat → Int} (k r t : Int) {w : World} (hX : Arg xo n cx z w) (hY : Arg yo m cy y w) (hnm : n + m ≤ 200) (h0 : D.hchk n z k m y = 0) :
    Calls Try.prog 3 #[.int .i64 D.q, .slice xo n cx, .int .i64 k, .slice yo m cy, .int .i64 r, .int .i64 t] w fun x w' => x = .returned (.bool true) ∧ Below w.heap.size w w' := by
  obtain ⟨hr0, hmn, hyh⟩ := hchk_ok h0
  obtain ⟨hn1, hn64, _, hk1, hkn⟩ := rchk_ok hr0
  obtain ⟨hxq, hne⟩ := places_ok (fld hD) hr0
  subst hmn
  obtain ⟨kn, hkk⟩ : ∃ kn : Nat, k = (kn : Nat) := ⟨k.toNat, by omega⟩
  subst hkk
  obtain ⟨k1, hk1'⟩ : ∃ k1, kn = k1 + 1 := ⟨kn - 1, by omega⟩
  obtain ⟨xs, hxs⟩ : ∃ xs, xs = zc m z := ⟨_, rfl⟩
  obtain ⟨ys, hys⟩ : ∃ ys, ys = zc m y := ⟨_, rfl⟩
  have h2q := (fld hD).q2
  have h64 := (fld hD).q64
  have hxh : ∀ j, j < m → D.has (z j) = true := (pch_ok m (rchk_ok hr0).2.2.1).1
  have HA : Hid (D ∈ fieldsL ∧ (∀ i, i < m → xs i < D.q) ∧ (∀ i j, i < m → j < m → i ≠ j → xs i ≠ xs j) ∧ Sl xo m xs w ∧ LtB xo w.heap.size ∧ (∀ i, i < m → ys i < D.q) ∧ Sl yo m ys w ∧ LtB yo w.heap.size ∧ kn = k1 + 1 ∧ m ≤ cx) := ⟨hD, by rw [hxs]; exact hxq, by rw [hxs]; exact hne, by rw [hxs]; exact has_sl hxh hX.sl, hX.lt, fun i _ => by rw [hys]; exact has_el (fld hD) hyh i, by rw [hys]; exact has_sl hyh hY.sl, hY.lt, hk1', hX.le⟩
  have HW : Hid (Calls Try.prog 9 #[.int .i64 D.q, .slice xo m cx, .int .i64 (kn : Nat), .slice yo m cy] w fun x w' => x = .returned (.int .i64 0) ∧ Below w.heap.size w w') := by
    have h := wholeWord_any hD (kn : Nat) hX hY
    rw [h0] at h; exact h
  have HC : Hid (∀ w1, Below w.heap.size w w1 → Calls Try.prog 48 #[.int .i64 D.q, .slice xo m cx, .int .i64 (kn : Nat), .slice yo m cy] w1 fun x w' => x = .returned (.int .i64 0) ∧ Below w1.heap.size w1 w') := fun w1 hb => by
    have h := checkWhole_any hD (kn : Nat) (hX.below hb) (hY.below hb)
    rw [h0] at h; exact h
  obtain ⟨N, hN⟩ : ∃ N, N = m + m := ⟨_, rfl⟩
  have hw1 : IntKind.i64.wrap ((m : Int) + (m : Int)) = (N : Int) := wrap_to (by omega) (by omega)
  have h3 : ¬ (200 : Int) < (N : Int) := by omega
  clear hX hY h0 hr0 hyh hxq hne hxh hxs hys hN hnm hk1'
  go_enter Try.func3, Try.ntmps3
  go_wp2_with fail
  refine HW.out.mono ?_
  rintro x w1 ⟨rfl, hb1⟩
  have H1 : Hid (Below w.heap.size w w1) := hb1
  clear hb1
  obtain ⟨Q, hQ⟩ : ∃ Q, Q = D.q ^ kn := ⟨_, rfl⟩
  by_cases hfew : Q ≤ 4096
  · have HFw : Hid (∀ wx, Calls Try.prog 10 #[.int .i64 D.q, .int .i64 (kn : Nat)] wx fun e w' => e = .returned (.bool true) ∧ w' = wx) := fun wx => by
      have h := few_any (q := D.q) (k := kn) h2q h64 (by omega) wx
      rw [← hQ, decide_eq_true hfew] at h; exact h
    go_wp2_with fail
    refine (HFw.out _).mono ?_
    rintro x w' ⟨rfl, hw⟩
    have hw := hw.symm
    subst hw
    go_wp2_with fail
    refine (rfield_sl HA.out.1 w1).mono ?_
    rintro x w2 ⟨gm, cm, rfl, hmod, hb2⟩
    unfold rf
    obtain ⟨wa, hwa⟩ : ∃ wa, wa = w2.alloc (.cells #[.int .i64 D.q, .int .i64 D.p, .int .i64 D.m, .int .i64 D.gen, .slice (some ⟨gm, 0, none⟩) (D.m + 1) cm] 27) := ⟨_, rfl⟩
    have hba : Below w2.heap.size w2 wa := by rw [hwa]; exact (Below.refl _ _).alloc (Nat.le_refl _) _
    have HX : Hid (Box w2.heap.size D D.gen (.slice (some ⟨gm, 0, none⟩) (D.m + 1) cm) wa ∧ wa.heap.size = w2.heap.size + 1 ∧ Below w.heap.size w wa ∧ ModAt D (.slice (some ⟨gm, 0, none⟩) (D.m + 1) cm) D.md wa ∧ Q = D.q ^ kn) := ⟨by rw [hwa]; exact box_new D D.gen _ w2, by rw [hwa]; simp, bel_up' (bel_up' H1.out hb2) hba, hmod.below hba, hQ⟩
    clear hmod hb2 hba hQ
    go_wp2_with fail
    rw [← hwa]
    clear hwa
    have HB : Hid (∀ wx, Below w.heap.size w wx → Below wa.heap.size wa wx → Below w.heap.size w wx ∧ Box w2.heap.size D D.gen (.slice (some ⟨gm, 0, none⟩) (D.m + 1) cm) wx ∧ ModAt D (.slice (some ⟨gm, 0, none⟩) (D.m + 1) cm) D.md wx) := fun wx h1 h2 => ⟨h1, HX.out.1.below (B := wa.heap.size) h2 (by have := HX.out.2.1; omega), HX.out.2.2.2.1.below h2⟩
    have hknm : kn ≤ m := by omega
    refine (rnear_any HA.out.1 D.gen gm cm r HA.out.2.2.2.2.2.2.2.2.1 HX.out.2.2.2.2 hfew hn64 HA.out.2.1 (HA.out.2.2.2.1.below HX.out.2.2.1 HA.out.2.2.2.2.1) (HA.out.2.2.2.2.1.mono HX.out.2.2.1.size) hknm (HA.out.2.2.2.2.2.2.1.below HX.out.2.2.1 HA.out.2.2.2.2.2.2.2.1) (HA.out.2.2.2.2.2.2.2.1.mono HX.out.2.2.1.size) HX.out.2.2.2.1).mono ?_
    rintro x w3 ⟨v3, rfl, hl3, hb3⟩
    have H3 : Hid (Below w.heap.size w w3 ∧ LLs wa.heap.size v3 (nrL D k1 m xs ys r Q) w3 ∧ Below wa.heap.size wa w3) := ⟨bel_up' HX.out.2.2.1 hb3, hl3, hb3⟩
    clear hl3 hb3
    go_wp2_with fail
    refine (lwithin_any HA.out.1 r HA.out.2.2.2.2.2.2.2.2.1 HX.out.2.2.2.2 hfew hn1 hn64 HA.out.2.2.2.2.2.2.2.2.2 HA.out.2.1 HA.out.2.2.1 (HA.out.2.2.2.1.below H3.out.1 HA.out.2.2.2.2.1) (HA.out.2.2.2.2.1.mono H3.out.1.size) hknm (HA.out.2.2.2.2.2.2.1.below H3.out.1 HA.out.2.2.2.2.2.2.2.1) (HA.out.2.2.2.2.2.2.2.1.mono H3.out.1.size) (HC.out _ H3.out.1)).mono ?_
    rintro x w4 ⟨v4, rfl, hl4, hb4⟩
    have H4 : Hid (Below w.heap.size w w4 ∧ (Calls Try.prog 14 #[v4, .int .i64 0, v3, .int .i64 0] w4 fun r w' => r = .returned (.bool true) ∧ ∃ n, w' = w4.drewN n) ∧ Below wa.heap.size wa w4) := by
      refine ⟨bel_up' H3.out.1 hb4, ?_, bel_up' H3.out.2.2 hb4⟩
      have hl := nrL_len (D := D) (k1 := k1) (n := m) (xs := xs) (y := ys) (r := r) Q
      exact lists_same hl4 (H3.out.2.1.below hb4 (Nat.le_refl _)) (by omega) (fun p hp => by rw [nrL_mem Q p hp]; have := HA.out.2.2.2.2.2.2.2.2.1; omega)
    clear hl4 hb4
    go_wp2_with fail
    refine H4.out.2.1.mono ?_
    rintro x w5 ⟨rfl, nd, hw5⟩
    have H5 : Hid (Below w.heap.size w w5 ∧ Box w2.heap.size D D.gen (.slice (some ⟨gm, 0, none⟩) (D.m + 1) cm) w5 ∧ ModAt D (.slice (some ⟨gm, 0, none⟩) (D.m + 1) cm) D.md w5) := HB.out _ (by rw [hw5]; exact below_drewN2 H4.out.1 nd) (by rw [hw5]; exact below_drewN2 H4.out.2.2 nd)
    clear hw5
    by_cases c1 : (kn : Int) < 2
    · go_wp2_with fail
      refine (sudan_count D.q (kn : Nat) t (by omega) (HC.out _ H5.out.1)).mono ?_
      rintro x w7 ⟨rfl, hb7⟩
      have H7 : Hid (Below w.heap.size w w7) := bel_up' H5.out.1 hb7
      clear hb7
      go_wp2_with fail
      refine (lists_err2 6 (by omega) none 0 (.slice none 0 0) w7).mono ?_
      rintro x w' ⟨rfl, hw⟩
      have hw := hw.symm
      subst hw
      go_wp2
      go_ret
      exact ⟨rfl, H7.out⟩
    · by_cases c2 : t < 1
      · go_wp2_with fail
        refine (sudan_count D.q (kn : Nat) t (by omega) (HC.out _ H5.out.1)).mono ?_
        rintro x w7 ⟨rfl, hb7⟩
        have H7 : Hid (Below w.heap.size w w7) := bel_up' H5.out.1 hb7
        clear hb7
        go_wp2_with fail
        refine (lists_err2 6 (by omega) none 0 (.slice none 0 0) w7).mono ?_
        rintro x w' ⟨rfl, hw⟩
        have hw := hw.symm
        subst hw
        go_wp2
        go_ret
        exact ⟨rfl, H7.out⟩
      · by_cases c3 : (m : Int) < t
        · go_wp2_with fail
          refine (sudan_count D.q (kn : Nat) t (by omega) (HC.out _ H5.out.1)).mono ?_
          rintro x w7 ⟨rfl, hb7⟩
          have H7 : Hid (Below w.heap.size w w7) := bel_up' H5.out.1 hb7
          clear hb7
          go_wp2_with fail
          refine (lists_err2 6 (by omega) none 0 (.slice none 0 0) w7).mono ?_
          rintro x w' ⟨rfl, hw⟩
          have hw := hw.symm
          subst hw
          go_wp2
          go_ret
          exact ⟨rfl, H7.out⟩
        · obtain ⟨tn, htn⟩ : ∃ tn : Nat, t = (tn : Nat) := ⟨t.toNat, by omega⟩
          subst htn
          obtain ⟨K, hK⟩ : ∃ K, kn = K + 1 := ⟨kn - 1, by omega⟩
          obtain ⟨s1, R, p, s2, R2, p2, hSO⟩ := sok_ex HA.out.1 (m := m) (svm_el HA.out.1 xs ys (prs K tn)) (svm_bd D xs ys (prs K tn))
          have HS : Hid (SOk D m (prs K tn).length (svm D xs ys (prs K tn)) s1 R p s2 R2 p2 ∧ kn = K + 1 ∧ 1 ≤ K ∧ 1 ≤ tn ∧ tn ≤ m ∧ kn ≤ m) := ⟨hSO, hK, by omega, by omega, by omega, by omega⟩
          clear hSO hK
          have hbx := H5.out.2.1
          obtain ⟨k0, k1', k2', k3, k4⟩ := hbx
          go_wp2_with fail
          refine (rsudan_any HA.out.1 D.gen gm cm HS.out.1 HS.out.2.1 HS.out.2.2.1 HS.out.2.2.2.1 HS.out.2.2.2.2.1 HS.out.2.2.2.2.2 hn64 HA.out.2.1 (HA.out.2.2.2.1.below H5.out.1 HA.out.2.2.2.2.1) (HA.out.2.2.2.2.1.mono H5.out.1.size) HA.out.2.2.2.2.2.1 (HA.out.2.2.2.2.2.2.1.below H5.out.1 HA.out.2.2.2.2.2.2.2.1) (HA.out.2.2.2.2.2.2.2.1.mono H5.out.1.size) H5.out.2.2).mono ?_
          rintro x w7 ⟨hb7, hs2, hx⟩
          have H7 : Hid (Below w.heap.size w w7) := bel_up' H5.out.1 hb7
          have HPs : Hid (∀ wx, Below w.heap.size w wx → Calls Try.prog 16 #[.int .i64 D.q, .slice xo m cx, .int .i64 (kn : Nat), .slice yo m cy, .int .i64 tn] wx fun e w' => Below wx.heap.size wx w' ∧ ((s2 = 0 ∧ e = .returned (.tuple #[.slice none 0 0, .int .i64 9])) ∨ (0 < s2 ∧ ∃ v, e = .returned (.tuple #[v, .int .i64 0]) ∧ LLs wx.heap.size v (gL (pyf (prs K tn)) (R2 0) (prs K tn).length) w'))) := fun wx hwx =>
            sudan_any HA.out.1 HS.out.1 hs2 HS.out.2.1 HS.out.2.2.1 HS.out.2.2.2.1 HS.out.2.2.2.2.1 HS.out.2.2.2.2.2 hn64 HA.out.2.1 (HA.out.2.2.2.1.below hwx HA.out.2.2.2.2.1) (HA.out.2.2.2.2.1.mono hwx.size) HA.out.2.2.2.2.2.1 (HA.out.2.2.2.2.2.2.1.below hwx HA.out.2.2.2.2.2.2.2.1) (HA.out.2.2.2.2.2.2.2.1.mono hwx.size) (HC.out _ hwx)
          clear hb7 hs2 k0 k1' k2' k3 k4
          rcases hx with ⟨hs0, rfl⟩ | ⟨hs0, v, rfl, hll⟩
          · go_wp2_with fail
            refine (HPs.out _ H7.out).mono ?_
            rintro x w8 ⟨hb8, hx⟩
            have H8 : Hid (Below w.heap.size w w8) := bel_up' H7.out hb8
            rcases hx with ⟨_, rfl⟩ | ⟨hs1, _⟩
            · clear hb8
              go_wp2_with fail
              refine (lists_err2 9 (by omega) none 0 (.slice none 0 0) w8).mono ?_
              rintro x w' ⟨rfl, hw⟩
              have hw := hw.symm
              subst hw
              go_wp2
              go_ret
              exact ⟨rfl, H8.out⟩
            · omega
          · have HV : Hid (LLs w7.heap.size v (gL (pyf (prs K tn)) (R2 0) (prs K tn).length) w7 ∨ ∃ b, LLs b v (gL (pyf (prs K tn)) (R2 0) (prs K tn).length) w7) := Or.inr ⟨_, hll⟩
            clear hll
            go_wp2_with fail
            refine (HPs.out _ H7.out).mono ?_
            rintro x w8 ⟨hb8, hx⟩
            rcases hx with ⟨hs1, _⟩ | ⟨_, v8, rfl, hll8⟩
            · omega
            · have H8 : Hid (Below w.heap.size w w8 ∧ Calls Try.prog 14 #[v8, .int .i64 0, v, .int .i64 0] w8 fun r w' => r = .returned (.bool true) ∧ ∃ n, w' = w8.drewN n) := by
                refine ⟨bel_up' H7.out hb8, ?_⟩
                have hl1 := gL_len (pyf (prs K tn)) (R2 0) (prs K tn).length
                have hl2 := gn_le (pyf (prs K tn)) (prs K tn).length
                have hl3 := prs_len K tn
                rcases HV.out with h | ⟨b, h⟩
                · exact lists_same hll8 (h.below hb8 (Nat.le_refl _)) (by omega) (fun p hp => by have := gL_small p hp; omega)
                · exact lists_same hll8 (h.below hb8 (Nat.le_refl _)) (by omega) (fun p hp => by have := gL_small p hp; omega)
              clear hb8 hll8
              go_wp2_with fail
              refine H8.out.2.mono ?_
              rintro x w9 ⟨rfl, nd, hw9⟩
              have H9 : Hid (Below w.heap.size w w9) := by rw [hw9]; exact below_drewN2 H8.out.1 nd
              clear hw9
              go_wp2
              go_ret
              exact ⟨rfl, H9.out⟩
  · have HFw : Hid (∀ wx, Calls Try.prog 10 #[.int .i64 D.q, .int .i64 (kn : Nat)] wx fun e w' => e = .returned (.bool false) ∧ w' = wx) := fun wx => by
      have h := few_any (q := D.q) (k := kn) h2q h64 (by omega) wx
      rw [← hQ, decide_eq_false hfew] at h; exact h
    go_wp2_with fail
    refine (HFw.out _).mono ?_
    rintro x w' ⟨rfl, hw⟩
    have hw := hw.symm
    subst hw
    go_wp2_with fail
    refine (rfield_sl HA.out.1 w1).mono ?_
    rintro x w2 ⟨gm, cm, rfl, hmod, hb2⟩
    unfold rf
    obtain ⟨wa, hwa⟩ : ∃ wa, wa = w2.alloc (.cells #[.int .i64 D.q, .int .i64 D.p, .int .i64 D.m, .int .i64 D.gen, .slice (some ⟨gm, 0, none⟩) (D.m + 1) cm] 27) := ⟨_, rfl⟩
    have hba : Below w2.heap.size w2 wa := by rw [hwa]; exact (Below.refl _ _).alloc (Nat.le_refl _) _
    have HX : Hid (Box w2.heap.size D D.gen (.slice (some ⟨gm, 0, none⟩) (D.m + 1) cm) wa ∧ wa.heap.size = w2.heap.size + 1 ∧ Below w.heap.size w wa ∧ ModAt D (.slice (some ⟨gm, 0, none⟩) (D.m + 1) cm) D.md wa ∧ Q = D.q ^ kn) := ⟨by rw [hwa]; exact box_new D D.gen _ w2, by rw [hwa]; simp, bel_up' (bel_up' H1.out hb2) hba, hmod.below hba, hQ⟩
    clear hmod hb2 hba hQ
    go_wp2_with fail
    rw [← hwa]
    clear hwa
    have HB : Hid (∀ wx, Below w.heap.size w wx → Below wa.heap.size wa wx → Below w.heap.size w wx ∧ Box w2.heap.size D D.gen (.slice (some ⟨gm, 0, none⟩) (D.m + 1) cm) wx ∧ ModAt D (.slice (some ⟨gm, 0, none⟩) (D.m + 1) cm) D.md wx) := fun wx h1 h2 => ⟨h1, HX.out.1.below (B := wa.heap.size) h2 (by have := HX.out.2.1; omega), HX.out.2.2.2.1.below h2⟩
    refine (within_many h2q h64 (by omega) (by rw [← HX.out.2.2.2.2]; omega) r (HC.out _ HX.out.2.2.1)).mono ?_
    rintro x w5 ⟨rfl, hb5⟩
    have H5 : Hid (Below w.heap.size w w5 ∧ Box w2.heap.size D D.gen (.slice (some ⟨gm, 0, none⟩) (D.m + 1) cm) w5 ∧ ModAt D (.slice (some ⟨gm, 0, none⟩) (D.m + 1) cm) D.md w5) := HB.out _ (bel_up' HX.out.2.2.1 hb5) hb5
    clear hb5
    go_wp2_with fail
    refine (lists_err2 4 (by omega) none 0 (.slice none 0 0) w5).mono ?_
    rintro x w' ⟨rfl, hw⟩
    have hw := hw.symm
    subst hw
    by_cases c1 : (kn : Int) < 2
    · go_wp2_with fail
      refine (sudan_count D.q (kn : Nat) t (by omega) (HC.out _ H5.out.1)).mono ?_
      rintro x w7 ⟨rfl, hb7⟩
      have H7 : Hid (Below w.heap.size w w7) := bel_up' H5.out.1 hb7
      clear hb7
      go_wp2_with fail
      refine (lists_err2 6 (by omega) none 0 (.slice none 0 0) w7).mono ?_
      rintro x w' ⟨rfl, hw⟩
      have hw := hw.symm
      subst hw
      go_wp2
      go_ret
      exact ⟨rfl, H7.out⟩
    · by_cases c2 : t < 1
      · go_wp2_with fail
        refine (sudan_count D.q (kn : Nat) t (by omega) (HC.out _ H5.out.1)).mono ?_
        rintro x w7 ⟨rfl, hb7⟩
        have H7 : Hid (Below w.heap.size w w7) := bel_up' H5.out.1 hb7
        clear hb7
        go_wp2_with fail
        refine (lists_err2 6 (by omega) none 0 (.slice none 0 0) w7).mono ?_
        rintro x w' ⟨rfl, hw⟩
        have hw := hw.symm
        subst hw
        go_wp2
        go_ret
        exact ⟨rfl, H7.out⟩
      · by_cases c3 : (m : Int) < t
        · go_wp2_with fail
          refine (sudan_count D.q (kn : Nat) t (by omega) (HC.out _ H5.out.1)).mono ?_
          rintro x w7 ⟨rfl, hb7⟩
          have H7 : Hid (Below w.heap.size w w7) := bel_up' H5.out.1 hb7
          clear hb7
          go_wp2_with fail
          refine (lists_err2 6 (by omega) none 0 (.slice none 0 0) w7).mono ?_
          rintro x w' ⟨rfl, hw⟩
          have hw := hw.symm
          subst hw
          go_wp2
          go_ret
          exact ⟨rfl, H7.out⟩
        · obtain ⟨tn, htn⟩ : ∃ tn : Nat, t = (tn : Nat) := ⟨t.toNat, by omega⟩
          subst htn
          obtain ⟨K, hK⟩ : ∃ K, kn = K + 1 := ⟨kn - 1, by omega⟩
          obtain ⟨s1, R, p, s2, R2, p2, hSO⟩ := sok_ex HA.out.1 (m := m) (svm_el HA.out.1 xs ys (prs K tn)) (svm_bd D xs ys (prs K tn))
          have HS : Hid (SOk D m (prs K tn).length (svm D xs ys (prs K tn)) s1 R p s2 R2 p2 ∧ kn = K + 1 ∧ 1 ≤ K ∧ 1 ≤ tn ∧ tn ≤ m ∧ kn ≤ m) := ⟨hSO, hK, by omega, by omega, by omega, by omega⟩
          clear hSO hK
          have hbx := H5.out.2.1
          obtain ⟨k0, k1', k2', k3, k4⟩ := hbx
          go_wp2_with fail
          refine (rsudan_any HA.out.1 D.gen gm cm HS.out.1 HS.out.2.1 HS.out.2.2.1 HS.out.2.2.2.1 HS.out.2.2.2.2.1 HS.out.2.2.2.2.2 hn64 HA.out.2.1 (HA.out.2.2.2.1.below H5.out.1 HA.out.2.2.2.2.1) (HA.out.2.2.2.2.1.mono H5.out.1.size) HA.out.2.2.2.2.2.1 (HA.out.2.2.2.2.2.2.1.below H5.out.1 HA.out.2.2.2.2.2.2.2.1) (HA.out.2.2.2.2.2.2.2.1.mono H5.out.1.size) H5.out.2.2).mono ?_
          rintro x w7 ⟨hb7, hs2, hx⟩
          have H7 : Hid (Below w.heap.size w w7) := bel_up' H5.out.1 hb7
          have HPs : Hid (∀ wx, Below w.heap.size w wx → Calls Try.prog 16 #[.int .i64 D.q, .slice xo m cx, .int .i64 (kn : Nat), .slice yo m cy, .int .i64 tn] wx fun e w' => Below wx.heap.size wx w' ∧ ((s2 = 0 ∧ e = .returned (.tuple #[.slice none 0 0, .int .i64 9])) ∨ (0 < s2 ∧ ∃ v, e = .returned (.tuple #[v, .int .i64 0]) ∧ LLs wx.heap.size v (gL (pyf (prs K tn)) (R2 0) (prs K tn).length) w'))) := fun wx hwx =>
            sudan_any HA.out.1 HS.out.1 hs2 HS.out.2.1 HS.out.2.2.1 HS.out.2.2.2.1 HS.out.2.2.2.2.1 HS.out.2.2.2.2.2 hn64 HA.out.2.1 (HA.out.2.2.2.1.below hwx HA.out.2.2.2.2.1) (HA.out.2.2.2.2.1.mono hwx.size) HA.out.2.2.2.2.2.1 (HA.out.2.2.2.2.2.2.1.below hwx HA.out.2.2.2.2.2.2.2.1) (HA.out.2.2.2.2.2.2.2.1.mono hwx.size) (HC.out _ hwx)
          clear hb7 hs2 k0 k1' k2' k3 k4
          rcases hx with ⟨hs0, rfl⟩ | ⟨hs0, v, rfl, hll⟩
          · go_wp2_with fail
            refine (HPs.out _ H7.out).mono ?_
            rintro x w8 ⟨hb8, hx⟩
            have H8 : Hid (Below w.heap.size w w8) := bel_up' H7.out hb8
            rcases hx with ⟨_, rfl⟩ | ⟨hs1, _⟩
            · clear hb8
              go_wp2_with fail
              refine (lists_err2 9 (by omega) none 0 (.slice none 0 0) w8).mono ?_
              rintro x w' ⟨rfl, hw⟩
              have hw := hw.symm
              subst hw
              go_wp2
              go_ret
              exact ⟨rfl, H8.out⟩
            · omega
          · have HV : Hid (LLs w7.heap.size v (gL (pyf (prs K tn)) (R2 0) (prs K tn).length) w7 ∨ ∃ b, LLs b v (gL (pyf (prs K tn)) (R2 0) (prs K tn).length) w7) := Or.inr ⟨_, hll⟩
            clear hll
            go_wp2_with fail
            refine (HPs.out _ H7.out).mono ?_
            rintro x w8 ⟨hb8, hx⟩
            rcases hx with ⟨hs1, _⟩ | ⟨_, v8, rfl, hll8⟩
            · omega
            · have H8 : Hid (Below w.heap.size w w8 ∧ Calls Try.prog 14 #[v8, .int .i64 0, v, .int .i64 0] w8 fun r w' => r = .returned (.bool true) ∧ ∃ n, w' = w8.drewN n) := by
                refine ⟨bel_up' H7.out hb8, ?_⟩
                have hl1 := gL_len (pyf (prs K tn)) (R2 0) (prs K tn).length
                have hl2 := gn_le (pyf (prs K tn)) (prs K tn).length
                have hl3 := prs_len K tn
                rcases HV.out with h | ⟨b, h⟩
                · exact lists_same hll8 (h.below hb8 (Nat.le_refl _)) (by omega) (fun p hp => by have := gL_small p hp; omega)
                · exact lists_same hll8 (h.below hb8 (Nat.le_refl _)) (by omega) (fun p hp => by have := gL_small p hp; omega)
              clear hb8 hll8
              go_wp2_with fail
              refine H8.out.2.mono ?_
              rintro x w9 ⟨rfl, nd, hw9⟩
              have H9 : Hid (Below w.heap.size w w9) := by rw [hw9]; exact below_drewN2 H8.out.1 nd
              clear hw9
              go_wp2
              go_ret
              exact ⟨rfl, H9.out⟩
end Go.Proofs.Ytjkncdmbcckcdaa
