/- TopApart: the walk of the statement, whatever raw numbers it is given. -/
import Derived.Test.YtcgmllamiaflcaaZZ1
import Derived.Test.YtcgmllamiaflcaaZK3
namespace Go.Proofs.Ytcgmllamiaflcaa
open Go.RowKit Go.Sort

theorem pick_in {m : Int} {k : Nat} (hk : 0 < k) : ∃ M : Nat, pick m (k : Int) = (M : Int) ∧ M < k := by
  have h1 := pick_lo m (k : Int) (by omega)
  have h2 := pick_hi m (k : Int) (by omega)
  exact ⟨(pick m (k : Int)).toNat, by omega, by omega⟩
theorem blw_zl' {q k : Nat} {y : Nat → Int} (h : Blw q k y) : zl k y = zl k fun j => ((zc k y j : Nat) : Int) :=
  zl_congr fun j hj => by
    have := (h j hj).1
    unfold zc
    rw [if_pos hj]; omega

set_option maxHeartbeats 1000000 in
theorem topApart_long {ao bo : Option Addr} {n m ca cb : Nat} (q x k : Int) (w : World) (hn : ¬ n + m ≤ 256) (hn2 : n ≤ 17592186044416) (hm2 : m ≤ 17592186044416) :
    Calls Try.prog 4 #[.slice ao n ca, .slice bo m cb, .int .i64 q, .int .i64 x, .int .i64 k] w fun r w' => r = .returned (.bool true) ∧ Below w.heap.size w w' := by
  have h1 : (256 : Int) < (n : Int) + (m : Int) := by omega
  have h2 : IntKind.i64.wrap ((n : Int) + (m : Int)) = ((n + m : Nat) : Int) := wrap_to (by omega) (by omega)
  have h3 : (256 : Int) < ((n + m : Nat) : Int) := by omega
  go_enter Try.func4, Try.ntmps4
  go_wp2
  go_ret
  exact ⟨rfl, Below.refl _ _⟩

set_option maxHeartbeats 16000000 in
set_option maxRecDepth 100000 in
theorem topApart_walk {ao bo : Option Addr} {n m ca cb : Nat} {z zb : Nat → Int} (q x k : Int) {w : World} (ha : Arg ao n ca z w) (hb : Arg bo m cb zb w) (hn : n + m ≤ 256) (hq : I64 q) (hx : I64 x) (hk : I64 k) :
    Calls Try.prog 4 #[.slice ao n ca, .slice bo m cb, .int .i64 q, .int .i64 x, .int .i64 k] w fun r w' => r = .returned (.bool true) ∧ Below w.heap.size w w' := by
  obtain ⟨D, hD, hDq⟩ := sizeOf_field q
  obtain ⟨N0, hN0, hN1⟩ := pick_in (m := x) (k := 16) (by omega)
  have h64 := (fld hD).q64
  have h2q := (fld hD).q2
  have HA : Hid (Arg ao n ca z w ∧ Arg bo m cb zb w ∧ D ∈ fieldsL) := ⟨ha, hb, hD⟩
  have HS : Hid (∀ w : World, Calls Try.prog 7 #[.int .i64 q] w fun e w' => e = .returned (.int .i64 D.q) ∧ Below w.heap.size w w') := fun w => by rw [← hDq]; exact sizeOf_any q w hq.1 hq.2
  have HP1 : Hid (∀ w : World, Calls Try.prog 8 #[.int .i64 x, .int .i64 16] w fun e w' => e = .returned (.int .i64 N0) ∧ w' = w) := fun w => by rw [← hN0]; exact pick_any x 16 w hx.1 hx.2 (by omega) (by omega)
  obtain ⟨N1, hNe⟩ : ∃ N1, N1 = 1 + N0 := ⟨_, rfl⟩
  have hwN : IntKind.i64.wrap (1 + (N0 : Int)) = (N1 : Int) := wrap_to (by omega) (by omega)
  have hNb : 1 ≤ N1 ∧ N1 ≤ 16 := by omega
  have HK : Hid (∀ N : Nat, 1 ≤ N → N ≤ 64 → ∃ K : Nat, 1 ≤ K ∧ K ≤ N ∧ ∃ K0 : Nat, IntKind.i64.wrap (1 + (K0 : Int)) = (K : Int) ∧ ∀ w : World, Calls Try.prog 8 #[.int .i64 k, .int .i64 N] w fun e w' => e = .returned (.int .i64 K0) ∧ w' = w) := fun N h1 h2 => by
    obtain ⟨K0, hK0, hK1⟩ := pick_in (m := k) (k := N) (by omega)
    exact ⟨1 + K0, by omega, by omega, K0, wrap_to (by omega) (by omega), fun w => by rw [← hK0]; exact pick_any k N w hk.1 hk.2 (by omega) (by omega)⟩
  have HPl : Hid (∀ N : Nat, N ≤ D.q → ∀ w2, Below w.heap.size w w2 → Calls Try.prog 9 #[.slice ao n ca, .int .i64 D.q, .int .i64 N] w2 fun e w' => ∃ g c, e = .returned (.slice (some ⟨g, 0, none⟩) N D.q) ∧ Row g D.q c w' ∧ Perm' D.q c ∧ Below w2.heap.size w2 w') := fun N hN w2 hb2 => by
    refine (places_any (HA.out.1.below hb2) (by omega) D.q N (by omega) (by omega) hN).mono ?_
    rintro e w' ⟨g, c, h1, _, h2, h3, h4⟩
    exact ⟨g, c, h1, h2, h3, h4⟩
  have HNu : Hid (∀ K : Nat, K ≤ 64 → ∀ w2, Below w.heap.size w w2 → ∀ (yo : Option Addr) (my cy : Nat) (y : Nat → Int), my ≤ 256 → Arg yo my cy y w → Calls Try.prog 10 #[.slice yo my cy, .int .i64 3, .int .i64 D.q, .int .i64 K] w2 fun e w' => ∃ co cc u, e = .returned (.slice co K cc) ∧ Arg co K cc u w' ∧ Blw D.q K u ∧ Below w2.heap.size w2 w') := fun K hK w2 hb2 yo my cy y hmy hy => by
    refine (numbers_any (hy.below hb2) (by omega) 3 D.q K (by omega) (by omega) (by omega) (by omega)).mono ?_
    rintro e w' ⟨v, u, rfl, ho, hbl, hb⟩
    obtain ⟨co, cc, rfl, hA⟩ := ho.argL
    exact ⟨co, cc, u, rfl, hA.arg (by omega), hbl, hb⟩
  have hnb : ¬ (256 : Int) < (n : Int) + (m : Int) := by omega
  have hwn : IntKind.i64.wrap ((n : Int) + (m : Int)) = ((n + m : Nat) : Int) := wrap_to (by omega) (by omega)
  have hnb2 : ¬ (256 : Int) < ((n + m : Nat) : Int) := by omega
  have hn256 : n ≤ 256 := by omega
  have hm256 : m ≤ 256 := by omega
  clear hD hDq hN0 ha hb hq hx hk hNe hn
  go_enter Try.func4, Try.ntmps4
  go_wp2_with fail
  refine (HS.out w).mono ?_
  rintro e w1 ⟨rfl, hb1⟩
  have HB1 : Hid (Below w.heap.size w w1) := hb1
  clear hb1
  go_wp2_with fail
  refine (HP1.out w1).mono ?_
  rintro e w' ⟨rfl, hw⟩
  have hw := hw.symm
  subst hw
  by_cases hNq : D.q < N1
  · have hNi : ((D.q : Nat) : Int) < (N1 : Int) := by omega
    have hNN : 1 ≤ D.q ∧ D.q ≤ 64 ∧ D.q ≤ D.q := by omega
    obtain ⟨K, hK1, hK2, K0, hwK, hPk⟩ := HK.out D.q hNN.1 hNN.2.1
    have HPk : Hid (∀ w : World, Calls Try.prog 8 #[.int .i64 k, .int .i64 (D.q : Nat)] w fun e w' => e = .returned (.int .i64 K0) ∧ w' = w) := hPk
    clear hPk
    go_wp2_with fail
    refine (HPk.out w1).mono ?_
    rintro e w' ⟨rfl, hw⟩
    have hw := hw.symm
    subst hw
    go_wp2_with fail
    refine (HPl.out D.q hNN.2.2 w1 HB1.out).mono ?_
    rintro e w2 ⟨gx, c, rfl, hrow2, hperm, hb2⟩
    have H2 : Hid (Below w.heap.size w w2 ∧ Sl (some ⟨gx, 0, none⟩) D.q c w2 ∧ LtB (some ⟨gx, 0, none⟩) w2.heap.size ∧ (∀ i, i < D.q → c i < D.q) ∧ ∀ i j, i < D.q → j < D.q → i ≠ j → c i ≠ c j) := by
      refine ⟨bel_up' HB1.out hb2, hrow2.sl hNN.2.2, fun a ha => by cases ha; exact hrow2.lt, fun i hi => hperm.1 i (by omega), fun i j hi hj hij => ?_⟩
      rcases Nat.lt_or_ge i j with h | h
      · exact hperm.2 i j h (by omega)
      · exact fun e => hperm.2 j i (by omega) (by omega) e.symm
    clear hrow2 hperm hb2
    go_wp2_with fail
    refine (HNu.out K (by omega) w2 H2.out.1 ao n ca z hn256 HA.out.1).mono ?_
    rintro e w3 ⟨uo, uc, u, rfl, hA3, hbl3, hb3⟩
    have H3 : Hid (Below w2.heap.size w2 w3 ∧ Arg uo K uc u w3 ∧ Blw D.q K u) := ⟨hb3, hA3, hbl3⟩
    clear hA3 hbl3 hb3
    go_wp2_with fail
    refine (HNu.out K (by omega) w3 (bel_up' H2.out.1 H3.out.1) bo m cb zb hm256 HA.out.2.1).mono ?_
    rintro e w4 ⟨vo, vc, v, rfl, hA4, hbl4, hb4⟩
    have H4 : Hid (Below w2.heap.size w2 w4 ∧ Below w.heap.size w w4 ∧ Arg uo K uc u w4 ∧ Arg vo K vc v w4 ∧ Blw D.q K v) := ⟨bel_up' H3.out.1 hb4, bel_up' H2.out.1 (bel_up' H3.out.1 hb4), H3.out.2.1.below hb4, hA4, hbl4⟩
    clear hA4 hbl4 hb4
    have HU : Hid (El D (zc K u) ∧ El D (zc K v) ∧ D.chk K u = 0 ∧ D.chk K v = 0) := by
      have h1 := blw_chk H3.out.2.2 (show K ≤ 128 by omega)
      have h2 := blw_chk H4.out.2.2.2.2 (show K ≤ 128 by omega)
      exact ⟨zc_el (fld HA.out.2.2) h1, zc_el (fld HA.out.2.2) h2, h1, h2⟩
    go_wp2_with fail
    refine (encode_ok HA.out.2.2 hNN.1 hNN.2.1 hNN.2.2 H2.out.2.2.2.1 H2.out.2.2.2.2 (H2.out.2.1.below H4.out.1 H2.out.2.2.1) (H2.out.2.2.1.mono H4.out.1.size) hK1 hK2 HU.out.1 (zc_sl HU.out.2.2.1 H4.out.2.2.1.sl) H4.out.2.2.1.lt).mono ?_
    rintro e w5 ⟨g5, rfl, hrow5, hb5⟩
    have H5 : Hid (Row g5 D.q (fun i => D.ev (zc K u) (c i) K) w5 ∧ Below w2.heap.size w2 w5 ∧ Below w.heap.size w w5 ∧ Arg uo K uc u w5 ∧ Arg vo K vc v w5) := ⟨hrow5, bel_up' H4.out.1 hb5, bel_up' H4.out.2.1 hb5, H4.out.2.2.1.below hb5, H4.out.2.2.2.1.below hb5⟩
    clear hrow5 hb5
    go_wp2_with fail
    refine (encode_ok HA.out.2.2 hNN.1 hNN.2.1 hNN.2.2 H2.out.2.2.2.1 H2.out.2.2.2.2 (H2.out.2.1.below H5.out.2.1 H2.out.2.2.1) (H2.out.2.2.1.mono H5.out.2.1.size) hK1 hK2 HU.out.2.1 (zc_sl HU.out.2.2.2 H5.out.2.2.2.2.sl) H5.out.2.2.2.2.lt).mono ?_
    rintro e w6 ⟨g6, rfl, hrow6, hb6⟩
    have H6 : Hid (Row g5 D.q (fun i => D.ev (zc K u) (c i) K) w6 ∧ Row g6 D.q (fun i => D.ev (zc K v) (c i) K) w6 ∧ Below w.heap.size w w6 ∧ Arg uo K uc u w6 ∧ Arg vo K vc v w6) := ⟨H5.out.1.below hb6 H5.out.1.lt, hrow6, bel_up' H5.out.2.2.1 hb6, H5.out.2.2.2.1.below hb6, H5.out.2.2.2.2.below hb6⟩
    clear hrow6 hb6
    by_cases hs : zl K u = zl K v
    · have HSm : Hid (Calls Try.prog 15 #[.slice uo K uc, .slice vo K vc] w6 fun e w' => e = .returned (.bool true) ∧ ∃ n, w' = w6.drewN n) := by
        have h := same_any (arg_sliceI H6.out.2.2.2.1 (Nat.le_refl _)) (arg_sliceI H6.out.2.2.2.2 (Nat.le_refl _))
        rw [decide_eq_true hs] at h; exact h
      clear hs
      go_wp2_with fail
      refine HSm.out.mono ?_
      rintro e w7 ⟨rfl, d7, hw7⟩
      have H7 : Hid (Below w.heap.size w w7) := by rw [hw7]; exact below_drewN2 H6.out.2.2.1 d7
      clear hw7
      go_wp2
      go_ret
      exact ⟨rfl, H7.out⟩
    · have HSm : Hid (Calls Try.prog 15 #[.slice uo K uc, .slice vo K vc] w6 fun e w' => e = .returned (.bool false) ∧ ∃ n, w' = w6.drewN n) := by
        have h := same_any (arg_sliceI H6.out.2.2.2.1 (Nat.le_refl _)) (arg_sliceI H6.out.2.2.2.2 (Nat.le_refl _))
        rw [decide_eq_false hs] at h; exact h
      have hfar := far_apart (fld HA.out.2.2) H2.out.2.2.2.1 H2.out.2.2.2.2 HU.out.1 HU.out.2.1 (zc_bd K u) (zc_bd K v) (fun e => hs (by rw [blw_zl' H3.out.2.2, blw_zl' H4.out.2.2.2.2, e]))
      obtain ⟨ap, hap⟩ : ∃ ap, ap = ct (fun i => !decide (D.ev (zc K u) (c i) K = D.ev (zc K v) (c i) K)) D.q := ⟨_, rfl⟩
      rw [← hap] at hfar
      have HAp : Hid (∀ d, Calls Try.prog 16 #[.slice (some ⟨g5, 0, none⟩) D.q D.q, .slice (some ⟨g6, 0, none⟩) D.q D.q] (w6.drewN d) fun e w' => e = .returned (.int .i64 (ap : Nat)) ∧ w' = w6.drewN d) := fun d => by
        rw [hap]
        exact apart_any ((H6.out.1.drewN d).sl (Nat.le_refl _)) ((H6.out.2.1.drewN d).sl (Nat.le_refl _)) (by omega)
      have hw8 : IntKind.i64.wrap (((D.q : Nat) : Int) - (K : Int)) = ((D.q - K : Nat) : Int) := wrap_to (by omega) (by omega)
      have hw9 : ((D.q : Nat) : Int) - (K : Int) < (ap : Int) := by omega
      have hw10 : ((D.q - K : Nat) : Int) < (ap : Int) := by omega
      clear hs hap hfar
      go_wp2_with fail
      refine HSm.out.mono ?_
      rintro e w7 ⟨rfl, d7, hw7⟩
      subst hw7
      go_wp2_with fail
      refine (HAp.out _).mono ?_
      rintro e w8 ⟨rfl, hw8'⟩
      have H8 : Hid (Below w.heap.size w w8) := by rw [hw8']; exact below_drewN2 H6.out.2.2.1 d7
      clear hw8'
      go_wp2
      go_ret
      exact ⟨rfl, H8.out⟩
  · have hNi : ¬ ((D.q : Nat) : Int) < (N1 : Int) := by omega
    have hNN : 1 ≤ N1 ∧ N1 ≤ 64 ∧ N1 ≤ D.q := by omega
    obtain ⟨K, hK1, hK2, K0, hwK, hPk⟩ := HK.out N1 hNN.1 hNN.2.1
    have HPk : Hid (∀ w : World, Calls Try.prog 8 #[.int .i64 k, .int .i64 (N1 : Nat)] w fun e w' => e = .returned (.int .i64 K0) ∧ w' = w) := hPk
    clear hPk
    go_wp2_with fail
    refine (HPk.out w1).mono ?_
    rintro e w' ⟨rfl, hw⟩
    have hw := hw.symm
    subst hw
    go_wp2_with fail
    refine (HPl.out N1 hNN.2.2 w1 HB1.out).mono ?_
    rintro e w2 ⟨gx, c, rfl, hrow2, hperm, hb2⟩
    have H2 : Hid (Below w.heap.size w w2 ∧ Sl (some ⟨gx, 0, none⟩) N1 c w2 ∧ LtB (some ⟨gx, 0, none⟩) w2.heap.size ∧ (∀ i, i < N1 → c i < D.q) ∧ ∀ i j, i < N1 → j < N1 → i ≠ j → c i ≠ c j) := by
      refine ⟨bel_up' HB1.out hb2, hrow2.sl hNN.2.2, fun a ha => by cases ha; exact hrow2.lt, fun i hi => hperm.1 i (by omega), fun i j hi hj hij => ?_⟩
      rcases Nat.lt_or_ge i j with h | h
      · exact hperm.2 i j h (by omega)
      · exact fun e => hperm.2 j i (by omega) (by omega) e.symm
    clear hrow2 hperm hb2
    go_wp2_with fail
    refine (HNu.out K (by omega) w2 H2.out.1 ao n ca z hn256 HA.out.1).mono ?_
    rintro e w3 ⟨uo, uc, u, rfl, hA3, hbl3, hb3⟩
    have H3 : Hid (Below w2.heap.size w2 w3 ∧ Arg uo K uc u w3 ∧ Blw D.q K u) := ⟨hb3, hA3, hbl3⟩
    clear hA3 hbl3 hb3
    go_wp2_with fail
    refine (HNu.out K (by omega) w3 (bel_up' H2.out.1 H3.out.1) bo m cb zb hm256 HA.out.2.1).mono ?_
    rintro e w4 ⟨vo, vc, v, rfl, hA4, hbl4, hb4⟩
    have H4 : Hid (Below w2.heap.size w2 w4 ∧ Below w.heap.size w w4 ∧ Arg uo K uc u w4 ∧ Arg vo K vc v w4 ∧ Blw D.q K v) := ⟨bel_up' H3.out.1 hb4, bel_up' H2.out.1 (bel_up' H3.out.1 hb4), H3.out.2.1.below hb4, hA4, hbl4⟩
    clear hA4 hbl4 hb4
    have HU : Hid (El D (zc K u) ∧ El D (zc K v) ∧ D.chk K u = 0 ∧ D.chk K v = 0) := by
      have h1 := blw_chk H3.out.2.2 (show K ≤ 128 by omega)
      have h2 := blw_chk H4.out.2.2.2.2 (show K ≤ 128 by omega)
      exact ⟨zc_el (fld HA.out.2.2) h1, zc_el (fld HA.out.2.2) h2, h1, h2⟩
    go_wp2_with fail
    refine (encode_ok HA.out.2.2 hNN.1 hNN.2.1 hNN.2.2 H2.out.2.2.2.1 H2.out.2.2.2.2 (H2.out.2.1.below H4.out.1 H2.out.2.2.1) (H2.out.2.2.1.mono H4.out.1.size) hK1 hK2 HU.out.1 (zc_sl HU.out.2.2.1 H4.out.2.2.1.sl) H4.out.2.2.1.lt).mono ?_
    rintro e w5 ⟨g5, rfl, hrow5, hb5⟩
    have H5 : Hid (Row g5 N1 (fun i => D.ev (zc K u) (c i) K) w5 ∧ Below w2.heap.size w2 w5 ∧ Below w.heap.size w w5 ∧ Arg uo K uc u w5 ∧ Arg vo K vc v w5) := ⟨hrow5, bel_up' H4.out.1 hb5, bel_up' H4.out.2.1 hb5, H4.out.2.2.1.below hb5, H4.out.2.2.2.1.below hb5⟩
    clear hrow5 hb5
    go_wp2_with fail
    refine (encode_ok HA.out.2.2 hNN.1 hNN.2.1 hNN.2.2 H2.out.2.2.2.1 H2.out.2.2.2.2 (H2.out.2.1.below H5.out.2.1 H2.out.2.2.1) (H2.out.2.2.1.mono H5.out.2.1.size) hK1 hK2 HU.out.2.1 (zc_sl HU.out.2.2.2 H5.out.2.2.2.2.sl) H5.out.2.2.2.2.lt).mono ?_
    rintro e w6 ⟨g6, rfl, hrow6, hb6⟩
    have H6 : Hid (Row g5 N1 (fun i => D.ev (zc K u) (c i) K) w6 ∧ Row g6 N1 (fun i => D.ev (zc K v) (c i) K) w6 ∧ Below w.heap.size w w6 ∧ Arg uo K uc u w6 ∧ Arg vo K vc v w6) := ⟨H5.out.1.below hb6 H5.out.1.lt, hrow6, bel_up' H5.out.2.2.1 hb6, H5.out.2.2.2.1.below hb6, H5.out.2.2.2.2.below hb6⟩
    clear hrow6 hb6
    by_cases hs : zl K u = zl K v
    · have HSm : Hid (Calls Try.prog 15 #[.slice uo K uc, .slice vo K vc] w6 fun e w' => e = .returned (.bool true) ∧ ∃ n, w' = w6.drewN n) := by
        have h := same_any (arg_sliceI H6.out.2.2.2.1 (Nat.le_refl _)) (arg_sliceI H6.out.2.2.2.2 (Nat.le_refl _))
        rw [decide_eq_true hs] at h; exact h
      clear hs
      go_wp2_with fail
      refine HSm.out.mono ?_
      rintro e w7 ⟨rfl, d7, hw7⟩
      have H7 : Hid (Below w.heap.size w w7) := by rw [hw7]; exact below_drewN2 H6.out.2.2.1 d7
      clear hw7
      go_wp2
      go_ret
      exact ⟨rfl, H7.out⟩
    · have HSm : Hid (Calls Try.prog 15 #[.slice uo K uc, .slice vo K vc] w6 fun e w' => e = .returned (.bool false) ∧ ∃ n, w' = w6.drewN n) := by
        have h := same_any (arg_sliceI H6.out.2.2.2.1 (Nat.le_refl _)) (arg_sliceI H6.out.2.2.2.2 (Nat.le_refl _))
        rw [decide_eq_false hs] at h; exact h
      have hfar := far_apart (fld HA.out.2.2) H2.out.2.2.2.1 H2.out.2.2.2.2 HU.out.1 HU.out.2.1 (zc_bd K u) (zc_bd K v) (fun e => hs (by rw [blw_zl' H3.out.2.2, blw_zl' H4.out.2.2.2.2, e]))
      obtain ⟨ap, hap⟩ : ∃ ap, ap = ct (fun i => !decide (D.ev (zc K u) (c i) K = D.ev (zc K v) (c i) K)) N1 := ⟨_, rfl⟩
      rw [← hap] at hfar
      have HAp : Hid (∀ d, Calls Try.prog 16 #[.slice (some ⟨g5, 0, none⟩) N1 N1, .slice (some ⟨g6, 0, none⟩) N1 N1] (w6.drewN d) fun e w' => e = .returned (.int .i64 (ap : Nat)) ∧ w' = w6.drewN d) := fun d => by
        rw [hap]
        exact apart_any ((H6.out.1.drewN d).sl (Nat.le_refl _)) ((H6.out.2.1.drewN d).sl (Nat.le_refl _)) (by omega)
      have hw8 : IntKind.i64.wrap (((N1 : Nat) : Int) - (K : Int)) = ((N1 - K : Nat) : Int) := wrap_to (by omega) (by omega)
      have hw9 : ((N1 : Nat) : Int) - (K : Int) < (ap : Int) := by omega
      have hw10 : ((N1 - K : Nat) : Int) < (ap : Int) := by omega
      clear hs hap hfar
      go_wp2_with fail
      refine HSm.out.mono ?_
      rintro e w7 ⟨rfl, d7, hw7⟩
      subst hw7
      go_wp2_with fail
      refine (HAp.out _).mono ?_
      rintro e w8 ⟨rfl, hw8'⟩
      have H8 : Hid (Below w.heap.size w w8) := by rw [hw8']; exact below_drewN2 H6.out.2.2.1 d7
      clear hw8'
      go_wp2
      go_ret
      exact ⟨rfl, H8.out⟩
end Go.Proofs.Ytcgmllamiaflcaa
