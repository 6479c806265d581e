/- TopMatrix: the walk of the statement, whatever raw numbers it is given. -/
import Derived.Test.YtbpeahhhkcljeaaZK4
import Derived.Test.YtbpeahhhkcljeaaZS5
import Derived.Test.YtbpeahhhkcljeaaZS7
namespace Go.Proofs.Ytbpeahhhkcljeaa
open Go.RowKit Go.Sort

theorem blw_mchk' {D : FD} {m c : Nat} {Z : Nat → Nat → Int} (hm : m ≤ 64) (hc0 : 1 ≤ c) (hc : c ≤ 64) (h : ∀ i, i < m → Blw D.q c (Z i)) : D.mchk m (fun _ => c) Z = 0 := by
  refine mchk_of hm (fun i hi => ?_)
  unfold FD.mrow
  rw [if_neg (by omega), if_neg (by omega), if_pos]
  refine allHas_iff.2 (fun j hj => ?_)
  have := h i hi j hj
  unfold FD.has
  rw [decide_eq_true_eq]; exact this
theorem pick_nat' {m : Int} {k : Nat} (hk : 0 < k) : ∃ M : Nat, pick m (k : Int) = (M : Int) ∧ M < k := by
  have h1 := pick_lo m (k : Int) (by omega)
  have h2 := pick_hi m (k : Int) (by omega)
  exact ⟨(pick m (k : Int)).toNat, by omega, by omega⟩

set_option maxHeartbeats 1000000 in
theorem topMatrix_long {ao : Option Addr} {n ca : Nat} (q m k : Int) (w : World) (hn : ¬ n ≤ 256) (hn2 : n ≤ 17592186044416) :
    Calls Try.prog 7 #[.slice ao n ca, .int .i64 q, .int .i64 m, .int .i64 k] w fun r w' => r = .returned (.bool true) ∧ Below w.heap.size w w' := by
  have h1 : (256 : Int) < (n : Int) := by omega
  go_enter Try.func7, Try.ntmps7
  go_wp2
  go_ret
  exact ⟨rfl, Below.refl _ _⟩

set_option maxHeartbeats 8000000 in
set_option maxRecDepth 100000 in
theorem topMatrix_walk {ao : Option Addr} {n ca : Nat} {z : Nat → Int} (q m k : Int) {w : World} (ha : Arg ao n ca z w) (hn : n ≤ 256) (hq : I64 q) (hm : I64 m) (hk : I64 k) :
    Calls Try.prog 7 #[.slice ao n ca, .int .i64 q, .int .i64 m, .int .i64 k] w fun r w' => r = .returned (.bool true) ∧ Below w.heap.size w w' := by
  obtain ⟨D, hD, hDq⟩ := sizeOf_field q
  obtain ⟨M0, hM0, hM1⟩ := pick_nat' (m := m) (k := 7) (by omega)
  obtain ⟨K0, hK0, hK1⟩ := pick_nat' (m := k) (k := 7) (by omega)
  have h64 := (fld hD).q64
  have h2q := (fld hD).q2
  have HA : Hid (Arg ao n ca z w ∧ D ∈ fieldsL) := ⟨ha, hD⟩
  have HS : Hid (∀ w : World, Calls Try.prog 17 #[.int .i64 q] w fun e w' => e = .returned (.int .i64 D.q) ∧ Below w.heap.size w w') := fun w => by rw [← hDq]; exact sizeOf_any q w hq.1 hq.2
  have HP1 : Hid (∀ w : World, Calls Try.prog 18 #[.int .i64 m, .int .i64 7] w fun e w' => e = .returned (.int .i64 M0) ∧ w' = w) := fun w => by rw [← hM0]; exact pick_any m 7 w hm.1 hm.2 (by omega) (by omega)
  have HP2 : Hid (∀ w : World, Calls Try.prog 18 #[.int .i64 k, .int .i64 7] w fun e w' => e = .returned (.int .i64 K0) ∧ w' = w) := fun w => by rw [← hK0]; exact pick_any k 7 w hk.1 hk.2 (by omega) (by omega)
  obtain ⟨M, hMe⟩ : ∃ M, M = 1 + M0 := ⟨_, rfl⟩
  obtain ⟨K, hKe⟩ : ∃ K, K = 1 + K0 := ⟨_, rfl⟩
  have hwM : IntKind.i64.wrap (1 + (M0 : Int)) = (M : Int) := wrap_to (by omega) (by omega)
  have hwK : IntKind.i64.wrap (1 + (K0 : Int)) = (K : Int) := wrap_to (by omega) (by omega)
  have hMb : 1 ≤ M ∧ M ≤ 7 := by omega
  have hKb : 1 ≤ K ∧ K ≤ 7 := by omega
  clear hD hDq hM0 hK0 ha hq hm hk hMe hKe
  have hnb : ¬ (256 : Int) < (n : Int) := by omega
  go_enter Try.func7, Try.ntmps7
  go_wp2_with fail
  refine (HS.out w).mono ?_
  rintro e w1 ⟨rfl, hb1⟩
  have HB1 : Hid (Below w.heap.size w w1) := hb1
  clear hb1
  go_wp2_with fail
  refine (HP1.out w1).mono ?_
  rintro e w' ⟨rfl, hw⟩
  have hw := hw.symm
  subst hw
  go_wp2_with fail
  refine (HP2.out w1).mono ?_
  rintro e w' ⟨rfl, hw⟩
  have hw := hw.symm
  subst hw
  go_wp2_with fail
  refine (matrixOf_any (HA.out.1.below HB1.out) (by omega) 0 D.q M K (by omega) (by omega) (by omega) (by omega) (by omega)).mono ?_
  rintro e w2 ⟨v, vs, Z, rfl, hmk, hb2⟩
  obtain ⟨mo, mc, rfl, hz⟩ := hmk.matZ (by omega)
  have HB2 : Hid (Below w.heap.size w w2 ∧ MatZ mo M (fun j => slA (vs j)) (fun _ => K) (fun j => slC (vs j)) Z w2 ∧ ∀ i, i < M → Blw D.q K (Z i)) := ⟨bel_up' HB1.out hb2, hz, hmk.blw⟩
  clear hz hmk hb2
  go_wp2_with fail
  go_loopw [10, 11] (fun v vi wr => ∃ (i : Nat) (ts : Nat → Value), i ≤ K ∧ vi = .int .i64 i ∧ Hid (MkS w2.heap.size D.q M i v ts (fun j i => Z i j) wr ∧ Below w2.heap.size w2 wr)) (fun _ vi _ => K - (intOf vi).toNat)
  case atStart => exact ⟨0, fun _ => undef, by omega, rfl, ⟨OwnV.nil _ _, fun j hj => absurd hj (by omega), fun j hj => absurd hj (by omega)⟩, Below.refl _ _⟩
  case round =>
    obtain ⟨i, ts, hi, rfl, HG⟩ := hrel
    rename World => wA
    by_cases hlt : i < K
    · have hib : (i : Int) < (K : Int) := by omega
      go_wp2_with fail
      go_loopw [12, 13] (fun v vj wr => ∃ j : Nat, j ≤ M ∧ vj = .int .i64 j ∧ Hid (OwnI wA.heap.size v (zl j fun j => Z j i) wr ∧ Below wA.heap.size wA wr)) (fun _ vj _ => M - (intOf vj).toNat)
      case atStart => exact ⟨0, by omega, rfl, OwnI.nil _ _, Below.refl _ _⟩
      case round =>
        obtain ⟨j, hj, rfl, HJ⟩ := hrel
        rename World => wB
        by_cases hjM : j < M
        · have hjb : (j : Int) < (M : Int) := by omega
          have hb2B := bel_up' HG.out.2 HJ.out.2
          obtain ⟨b, off, eM, hc⟩ := (HB2.out.2.1.below hb2B).cell j hjM
          subst eM
          obtain ⟨bx, ox, ex, hcx⟩ := (HB2.out.2.1.below hb2B).sl j hjM i hlt
          rw [ex] at hc
          obtain ⟨x, hx⟩ : ∃ x, x = Z j i := ⟨_, rfl⟩
          rw [← hx] at hcx
          have HX : Hid (x = Z j i) := hx
          have hll : (zl j fun j => Z j i).length ≤ 1000 := by rw [zl_len]; omega
          have hsB := HJ.out.2.size
          clear hx ex hb2B
          go_wp2_with (at_builtin; refine append_int rfl _ _ rfl wA.heap.size _ (zl j fun j => Z j i) rfl (HJ.out.1.alloc _) ⟨_, 0, none⟩ 1 x rfl (by simp) (by omega) (by simp; omega) ?_; intro v5 w5 hown5 hgrow5)
          have HR : Hid (OwnI wA.heap.size v5 (zl (j + 1) fun j => Z j i) w5 ∧ Below wA.heap.size wA w5) := by
            refine ⟨by rw [zl_succ, ← HX.out]; exact hown5, (HJ.out.2.alloc hsB _).grown hgrow5 (by simp; omega) (fun k hk => (HJ.out.1.lt k hk).1)⟩
          clear hown5 hgrow5
          go_roundw
          case rel => exact ⟨j + 1, by omega, by go_num, HR.out⟩
          case measure => simp [intOf]; omega
        · have hjb : ¬ (j : Int) < (M : Int) := by omega
          have hje : M = j := by omega
          subst hje
          obtain ⟨bo, cb, hv, _⟩ := HJ.out.1.argL
          subst hv
          have hsB := HJ.out.2.size
          have hsA := HG.out.2.size
          have H2 : Hid (MkS w2.heap.size D.q M i u10 ts (fun j i => Z i j) wB ∧ OwnI w2.heap.size (.slice bo M cb) (zl M fun j => Z j i) wB ∧ Blw D.q M (fun j => Z j i) ∧ Below w2.heap.size w2 wB) := ⟨HG.out.1.below HJ.out.2, HJ.out.1.mono hsA, fun j hj => HB2.out.2.2 j hj i hlt, bel_up' HG.out.2 HJ.out.2⟩
          have hll : (vl i ts).length ≤ 1000000 := by rw [vl_len]; omega
          go_wp2_with (at_builtin; refine append_sl rfl _ _ rfl w2.heap.size u10 (vl i ts) rfl (H2.out.1.own.below ((Below.refl _ _).alloc (Nat.le_refl _) _) (Nat.le_refl _)) ⟨wB.heap.size, 0, none⟩ 1 (.slice bo M cb) rfl rfl (by rw [cell_of_row _ _ _ _ _ (0, 0) (two_new _)]; rfl) hll (by simp; omega) ?_; intro v' w6 hown6 hg6)
          have hal : Below wB.heap.size wB (wB.alloc (.cells #[.slice bo M cb] 23)) := (Below.refl _ _).alloc (Nat.le_refl _) _
          have HR : Hid (∃ ts', MkS w2.heap.size D.q M (i + 1) v' ts' (fun j i => Z i j) w6 ∧ Below w2.heap.size w2 w6) := by
            have ho := H2.out.1.below hal
            have hp := ho.push (H2.out.2.1.below hal (fun k hk => (H2.out.2.1.lt k hk).2)) H2.out.2.2.1 hown6 hg6
            have e : (fun j' => if j' = i then (fun j => Z j i) else (fun i => Z i j')) = (fun j' i' => Z i' j') := by
              funext j' i'
              by_cases e : j' = i
              · rw [if_pos e, e]
              · rw [if_neg e]
            rw [e] at hp
            exact ⟨_, hp, (bel_up' H2.out.2.2.2 hal).grown hg6 (by simp; omega) (fun k hk => ho.own.open_ge k hk)⟩
          clear hown6 hg6 hal
          obtain ⟨ts', hr'⟩ := HR.out
          go_roundw
          case rel => exact ⟨i + 1, ts', by omega, by go_num, hr'⟩
          case measure => simp [intOf]; omega
    · have hib : ¬ (i : Int) < (K : Int) := by omega
      have hie : K = i := by omega
      subst hie
      obtain ⟨to', tc, hvt, hzt⟩ := HG.out.1.matZ (by omega)
      subst hvt
      have hz2 := HB2.out.2.1.below HG.out.2
      obtain ⟨n1, k1, R1, p1, k2, R2, p2, hok⟩ := mok_ex HA.out.2 hz2 (blw_mchk' (by omega) hKb.1 (by omega) HB2.out.2.2) (by omega)
      obtain ⟨n1', k1', R1', p1', k2', R2', p2', hok'⟩ := mok_ex HA.out.2 hzt (blw_mchk' (by omega) hMb.1 (by omega) HG.out.1.blw) (by omega)
      have hn1 : n1 + 1 = K := hok.wd.symm
      have hn1' : n1' + 1 = M := hok'.wd.symm
      have hrank : k1 = k1' := by
        have hr := hok.rre
        have hr' := hok'.rre
        have hel := hok.el
        have hs' := hok'.spn
        rw [hn1] at hr hel
        rw [hn1'] at hr'
        refine tr_eq HA.out.2 hel hr hok.spn hr' (fun v => (hs' v).trans ?_)
        have hrow : ∀ j, j < K → mzc (fun _ => M) (fun j i => Z i j) j = trn M (mzc (fun _ => K) Z) j := fun j hj => by
          funext i
          show zc M (fun i => Z i j) i = trn M (mzc (fun _ => K) Z) j i
          unfold zc trn mzc zc
          rw [if_pos hj]
        constructor
        · refine fun hv => spn_le (fld HA.out.2) (fun u hu => ?_) hv
          obtain ⟨j, hj, rfl⟩ := hu
          rw [hrow j hj]
          exact spn_mem (fld HA.out.2) (trn_el (fld HA.out.2) (fun i hi => (hel i hi).1) j) ⟨j, hj, rfl⟩
        · refine fun hv => spn_le (fld HA.out.2) (fun u hu => ?_) hv
          obtain ⟨j, hj, rfl⟩ := hu
          rw [← hrow j hj]
          exact spn_mem (fld HA.out.2) (hok'.el j hj).1 ⟨j, hj, rfl⟩
      obtain ⟨cnt, hcnt⟩ : ∃ cnt, cnt = nct k1 p1 (n1 + 1) := ⟨_, rfl⟩
      have hsum : cnt + k1 = K := by
        have h := nct_all hok.rre.mono hok.rre.lt
        rw [← hcnt] at h
        omega
      have hkm := hok.km
      have HO : Hid (MOk D mo M n1 (fun j => slA (vs j)) (fun _ => K) (fun j => slC (vs j)) Z wA k1 R1 p1 k2 R2 p2 ∧ MOk D to' K n1' (fun j => slA (ts j)) (fun _ => M) (fun j => slC (ts j)) (fun j i => Z i j) wA k1 R1' p1' k2' R2' p2' ∧ cnt = nct k1 p1 (n1 + 1) ∧ Below w.heap.size w wA) := ⟨hok, by rw [hrank]; exact hok', hcnt, bel_up' HB2.out.1 HG.out.2⟩
      clear hok hok' hrank hcnt hn1 hn1' hz2 hzt
      have hz1 : ((k1 : Int) == (k1 : Int)) = true := by simp
      have hz2 : ((k1 : Int) + (cnt : Int) == (K : Int)) = true := by rw [beq_iff_eq]; omega
      have hz3 : (k1 : Int) ≤ (M : Int) := by omega
      go_wp2_with fail
      refine (c_rank HO.out.1).mono ?_
      rintro e w3 ⟨rfl, hb3⟩
      have H3 : Hid (Below wA.heap.size wA w3) := hb3
      clear hb3
      go_wp2_with fail
      refine (c_rank (HO.out.2.1.below H3.out)).mono ?_
      rintro e w4 ⟨rfl, hb4⟩
      have H4 : Hid (Below wA.heap.size wA w4) := bel_up' H3.out hb4
      clear hb4
      have HN : Hid (Calls Try.prog 38 #[.int .i64 D.q, .slice mo M mc] w4 fun e w' => ∃ lo lc, e = .returned (.tuple #[.slice lo cnt lc, .int .i64 0]) ∧ Below w4.heap.size w4 w') := by
        refine (c_null (HO.out.1.below H4.out)).mono ?_
        rintro e w' ⟨lo, lc, rfl, _, hb⟩
        exact ⟨lo, lc, by rw [HO.out.2.2.1], hb⟩
      go_wp2_with fail
      refine HN.out.mono ?_
      rintro e w5 ⟨lo, lc, rfl, hb5⟩
      have H5 : Hid (Below wA.heap.size wA w5) := bel_up' H4.out hb5
      clear hb5
      go_wp2_with fail
      refine (c_red (HO.out.1.below H5.out)).mono ?_
      rintro e w6 ⟨ro, rc, po, pc, rfl, _, _, hb6⟩
      have H6 : Hid (Below w.heap.size w w6) := bel_up' HO.out.2.2.2 (bel_up' H5.out hb6)
      clear hb6
      go_wp2
      go_ret
      exact ⟨by first | rfl | simp, H6.out⟩
end Go.Proofs.Ytbpeahhhkcljeaa
