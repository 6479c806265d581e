/- TopMassey: the walk of the statement, whatever raw numbers it is given. -/
import Derived.Test.YtcgmllamiaflcaaZY3
import Derived.Test.YtcgmllamiaflcaaZK1
import Derived.Test.YtcgmllamiaflcaaZC2
namespace Go.Proofs.Ytcgmllamiaflcaa
open Go.RowKit Go.Sort

theorem pick_few {m : Int} {k : Nat} (hk : 0 < k) : ∃ M : Nat, pick m (k : Int) = (M : Int) ∧ M < k := by
  have h1 := pick_lo m (k : Int) (by omega)
  have h2 := pick_hi m (k : Int) (by omega)
  exact ⟨(pick m (k : Int)).toNat, by omega, by omega⟩
theorem blw_chk0 {D : FD} {k : Nat} {y : Nat → Int} (h : Blw D.q k y) (hk : k ≤ 128) : D.chk k y = 0 := by
  unfold FD.chk
  rw [if_neg (by omega), if_pos]
  refine allHas_iff.2 (fun j hj => ?_)
  have := h j hj
  unfold FD.has
  rw [decide_eq_true_eq]; exact this
theorem blw_zl {q k : Nat} {y : Nat → Int} (h : Blw q k y) : zl k y = zl k fun j => ((zc k y j : Nat) : Int) :=
  zl_congr fun j hj => by
    have := (h j hj).1
    unfold zc
    rw [if_pos hj]; omega
theorem made_put {D : FD} {c y : Nat → Nat} {n i v : Nat} (h : Made D c n y i) (hi : n ≤ i) (hv : v = dt D c (fun k => y (i - 1 - k)) n) : Made D c n (fun j => if j = i then v else y j) (i + 1) := fun t h1 h2 => by
  have e : dt D c (fun k => (fun j => if j = i then v else y j) (t - 1 - k)) n = dt D c (fun k => y (t - 1 - k)) n := by
    by_cases hn : n = 0
    · subst hn; rfl
    · refine dt_same n (fun j hj => ?_)
      show (if t - 1 - j = i then v else y (t - 1 - j)) = _
      rw [if_neg (by omega)]
  rw [e]
  show (if t = i then v else y t) = _
  by_cases e2 : t = i
  · rw [if_pos e2, hv, e2]
  · rw [if_neg e2]; exact h t h1 (by omega)

set_option maxHeartbeats 1000000 in
theorem topMassey_long {ao : Option Addr} {n ca : Nat} (q m k : Int) (w : World) (hn : ¬ n ≤ 256) (hn2 : n ≤ 17592186044416) :
    Calls Try.prog 5 #[.slice ao n ca, .int .i64 q, .int .i64 m, .int .i64 k] w fun r w' => r = .returned (.bool true) ∧ Below w.heap.size w w' := by
  have h1 : (256 : Int) < (n : Int) := by omega
  go_enter Try.func5, Try.ntmps5
  go_wp2
  go_ret
  exact ⟨rfl, Below.refl _ _⟩

set_option maxHeartbeats 16000000 in
set_option maxRecDepth 100000 in
theorem topMassey_walk {ao : Option Addr} {n ca : Nat} {z : Nat → Int} (q m k : Int) {w : World} (ha : Arg ao n ca z w) (hn : n ≤ 256) (hq : I64 q) (hm : I64 m) (hk : I64 k) :
    Calls Try.prog 5 #[.slice ao n ca, .int .i64 q, .int .i64 m, .int .i64 k] w fun r w' => r = .returned (.bool true) ∧ Below w.heap.size w w' := by
  obtain ⟨M, hM0, hM1⟩ := pick_few (m := m) (k := 6) (by omega)
  obtain ⟨K, hK0, hK1⟩ := pick_few (m := k) (k := 9) (by omega)
  have HA : Hid (Arg ao n ca z w) := ha
  have HF0 : Hid (Calls Try.prog 17 #[.int .i64 q] w fun e w' => ∃ D F T g, D ∈ fieldsL ∧ e = .returned (.pointer (some ⟨F, 0, none⟩)) ∧ FAt F T D g w' ∧ Below w.heap.size w w') := (fieldOf_any q w hq.1 hq.2).mono fun e w' ⟨D, F, T, g, h1, _, h2, h3, _, _, h4⟩ => ⟨D, F, T, g, h1, h2, h3, h4⟩
  have HP1 : Hid (∀ w : World, Calls Try.prog 8 #[.int .i64 m, .int .i64 6] w fun e w' => e = .returned (.int .i64 M) ∧ w' = w) := fun w => by rw [← hM0]; exact pick_any m 6 w hm.1 hm.2 (by omega) (by omega)
  have HP2 : Hid (∀ w : World, Calls Try.prog 8 #[.int .i64 k, .int .i64 9] w fun e w' => e = .returned (.int .i64 K) ∧ w' = w) := fun w => by rw [← hK0]; exact pick_any k 9 w hk.1 hk.2 (by omega) (by omega)
  have hnb : ¬ (256 : Int) < (n : Int) := by omega
  clear ha hq hm hk hM0 hK0
  go_enter Try.func5, Try.ntmps5
  go_wp2_with fail
  refine HF0.out.mono ?_
  rintro e w1 ⟨D, F, T, g, hD, rfl, hat, hb1⟩
  have h64 := (fld hD).q64
  have h2q := (fld hD).q2
  have H1 : Hid (D ∈ fieldsL ∧ FAt F T D g w1 ∧ Below w.heap.size w w1) := ⟨hD, hat, hb1⟩
  have HSz : Hid (∀ wx, Below w1.heap.size w1 wx → Calls Try.prog 18 #[.pointer (some ⟨F, 0, none⟩)] wx fun e w' => e = .returned (.int .i64 D.q) ∧ w' = wx) := fun wx hx => size_any (H1.out.2.1.below hx H1.out.2.1.ltF H1.out.2.1.ltT)
  have HN1 : Hid (∀ w2, Below w1.heap.size w1 w2 → ∀ f : Nat, f ≤ 100 → Calls Try.prog 10 #[.slice ao n ca, .int .i64 f, .int .i64 D.q, .int .i64 M] w2 fun e w' => ∃ v y, e = .returned v ∧ OwnI w2.heap.size v (zl M y) w' ∧ Blw D.q M y ∧ Below w2.heap.size w2 w') := fun w2 hb2 f hf =>
    numbers_any (HA.out.below (bel_up' H1.out.2.2 hb2)) (by omega) f D.q M (by omega) (by omega) (by omega) (by omega)
  clear hD hat hb1
  go_wp2_with fail
  refine (HP1.out w1).mono ?_
  rintro e w' ⟨rfl, hw⟩
  have hw := hw.symm
  subst hw
  go_wp2_with fail
  refine (HSz.out w1 (Below.refl _ _)).mono ?_
  rintro e w' ⟨rfl, hw⟩
  have hw := hw.symm
  subst hw
  go_wp2_with fail
  refine (HN1.out w1 (Below.refl _ _) 0 (by omega)).mono ?_
  rintro e w2 ⟨v2, cz, rfl, ho2, hbl2, hb2⟩
  obtain ⟨co, cc, hv2, hac⟩ := ho2.argL
  subst hv2
  obtain ⟨c, hc⟩ : ∃ c, c = zc M cz := ⟨_, rfl⟩
  have H2 : Hid (El D c ∧ Sl co M c w2 ∧ LtB co w2.heap.size ∧ Below w1.heap.size w1 w2) := ⟨by rw [hc]; exact zc_el (fld H1.out.1) (blw_chk0 hbl2 (by omega)), by rw [hc]; exact zc_sl (blw_chk0 hbl2 (by omega)) hac.sl, hac.lt, hb2⟩
  clear ho2 hbl2 hac hc hb2
  go_wp2_with fail
  refine (HSz.out w2 H2.out.2.2.2).mono ?_
  rintro e w' ⟨rfl, hw⟩
  have hw := hw.symm
  subst hw
  go_wp2_with fail
  refine (HN1.out w2 H2.out.2.2.2 9 (by omega)).mono ?_
  rintro e w3 ⟨v3, sz, rfl, ho3, hbl3, hb3⟩
  have H3 : Hid (OwnI w2.heap.size v3 (zl M fun j => ((zc M sz j : Nat) : Int)) w3 ∧ El D (zc M sz) ∧ Below w2.heap.size w2 w3) := ⟨by rw [← blw_zl hbl3]; exact ho3, zc_el (fld H1.out.1) (blw_chk0 hbl3 (by omega)), hb3⟩
  clear ho3 hbl3 hb3
  obtain ⟨E, hE⟩ : ∃ E, E = 2 * M + 4 + K := ⟨_, rfl⟩
  have hw1 : IntKind.i64.wrap (2 * (M : Int)) = ((2 * M : Nat) : Int) := wrap_to (by omega) (by omega)
  have hw2 : IntKind.i64.wrap (((2 * M : Nat) : Int) + 4) = ((2 * M + 4 : Nat) : Int) := wrap_to (by omega) (by omega)
  have hw3 : IntKind.i64.wrap (((2 * M + 4 : Nat) : Int) + (K : Int)) = (E : Int) := wrap_to (by omega) (by omega)
  have hw4 : 2 * (M : Int) + 4 + (K : Int) = (E : Int) := by omega
  have HE : Hid (E = 2 * M + 4 + K) := hE
  have hE2 : E ≤ 30 := by omega
  have hME : M ≤ E := by omega
  clear hE
  go_wp2_with fail
  go_loopw [11, 12] (fun vs vi wr => ∃ (i : Nat) (y : Nat → Nat), i ≤ E ∧ vi = .int .i64 i ∧ Hid (M ≤ i ∧ OwnI w2.heap.size vs (zl i fun j => ((y j : Nat) : Int)) wr ∧ El D y ∧ Made D c M y i ∧ Below w2.heap.size w2 wr)) (fun _ vi _ => E - (intOf vi).toNat)
  case atStart => exact ⟨M, zc M sz, hME, rfl, Nat.le_refl _, H3.out.1, H3.out.2.1, fun t h1 h2 => absurd h1 (by omega), H3.out.2.2⟩
  case round =>
    obtain ⟨i, y, hi, rfl, HG⟩ := hrel
    rename World => wA
    have HPk : Hid (Calls Try.prog 8 #[.int .i64 k, .int .i64 9] wA fun e w' => e = .returned (.int .i64 K) ∧ w' = wA) := HP2.out wA
    obtain ⟨so, sca, hvs, has⟩ := HG.out.2.1.argL
    subst hvs
    have HS : Hid (ArgL so i sca (fun j => ((y j : Nat) : Int)) wA) := has
    clear has
    have hatA := H1.out.2.1.below (bel_up' H2.out.2.2.2 HG.out.2.2.2.2) H1.out.2.1.ltF H1.out.2.1.ltT
    have HFA : Hid (FAt F T D g wA) := hatA
    clear hatA
    by_cases hlt : i < E
    · have hib : (i : Int) < (E : Int) := by omega
      go_wp2_with fail
      refine HPk.out.mono ?_
      rintro e w' ⟨rfl, hw⟩
      have hw := hw.symm
      subst hw
      go_wp2_with fail
      go_loopw [13, 14] (fun vv vk wr => ∃ (j x : Nat), j ≤ M ∧ vv = .int .i64 (x : Nat) ∧ vk = .int .i64 j ∧ Hid (x = dt D c (fun k => y (i - 1 - k)) j ∧ ∃ d, wr = wA.drewN d)) (fun _ vk _ => M - (intOf vk).toNat)
      case atStart => exact ⟨0, 0, by omega, rfl, rfl, rfl, 0, rfl⟩
      case round =>
        obtain ⟨j, x, hj, rfl, rfl, HX⟩ := hrel
        rename World => wr
        have hMi := HG.out.1
        by_cases hjM : j < M
        · have hjb : (j : Int) < (M : Int) := by omega
          obtain ⟨p, hp⟩ : ∃ p, p = i - 1 - j := ⟨_, rfl⟩
          have hsC : Sl co M c wr := by
            obtain ⟨d, hd⟩ := HX.out.2
            rw [hd]
            exact H2.out.2.1.below (below_drewN2 HG.out.2.2.2.2 d) H2.out.2.2.1
          have hsS : SlZ so i (fun j => ((y j : Nat) : Int)) wr := by
            obtain ⟨d, hd⟩ := HX.out.2
            rw [hd]
            exact HS.out.sl
          have hatr : FAt F T D g wr := by
            obtain ⟨d, hd⟩ := HX.out.2
            rw [hd]
            exact HFA.out.drewN d
          obtain ⟨bC, oC, rfl, hcC⟩ := hsC j hjM
          obtain ⟨bS, oS, rfl, hcS⟩ := hsS p (by omega)
          replace hcS : wr.cell? ⟨bS, oS + p, none⟩ = some (.int .i64 ((y p : Nat) : Int)) := hcS
          have hw5 : IntKind.i64.wrap ((i : Int) - 1) = ((p + j : Nat) : Int) := wrap_to (by omega) (by omega)
          have hw6 : IntKind.i64.wrap (((p + j : Nat) : Int) - (j : Int)) = (p : Int) := wrap_to (by omega) (by omega)
          have hw7 : (i : Int) - 1 - (j : Int) = (p : Int) := by omega
          have hpb : (p : Int) < (i : Int) := by omega
          have hp0 : (0 : Int) ≤ (p : Int) := by omega
          obtain ⟨cx, hcx⟩ : ∃ cx, cx = c j := ⟨_, rfl⟩
          obtain ⟨sx, hsx⟩ : ∃ sx, sx = y p := ⟨_, rfl⟩
          rw [← hcx] at hcC
          rw [← hsx] at hcS
          obtain ⟨t, ht⟩ : ∃ t, t = D.mul cx sx := ⟨_, rfl⟩
          obtain ⟨u, hu⟩ : ∃ u, u = D.ad x t := ⟨_, rfl⟩
          have F' := fld H1.out.1
          have HC1 : Hid (∀ d, Calls Try.prog 20 #[.pointer (some ⟨F, 0, none⟩), .int .i64 (cx : Nat), .int .i64 (sx : Nat)] (wr.drewN d) fun e w' => e = .returned (.int .i64 (t : Nat)) ∧ ∃ k, w' = (wr.drewN d).drewN k) := fun d => by
            rw [ht]; exact mul_nat H1.out.1 (hatr.drewN d) (by rw [hcx]; exact H2.out.1 j) (by rw [hsx]; exact HG.out.2.2.1 p)
          have HC2 : Hid (∀ d, Calls Try.prog 19 #[.pointer (some ⟨F, 0, none⟩), .int .i64 (x : Nat), .int .i64 (t : Nat)] (wr.drewN d) fun e w' => e = .returned (.int .i64 (u : Nat)) ∧ ∃ k, w' = (wr.drewN d).drewN k) := fun d => by
            rw [hu]; exact add_nat H1.out.1 (hatr.drewN d) (by rw [HX.out.1]; exact dt_lt F' _ _ _) (by rw [ht]; exact F'.mul_lt _ _)
          have HV : Hid (u = dt D c (fun k => y (i - 1 - k)) (j + 1)) := by
            show u = D.ad (dt D c (fun k => y (i - 1 - k)) j) (D.mul (c j) (y (i - 1 - j)))
            rw [hu, ht, HX.out.1, hcx, hsx, hp]
          have HW : Hid (∀ k, ∃ d, wr.drewN k = wA.drewN d) := fun k => by
            obtain ⟨d, hd⟩ := HX.out.2
            exact ⟨d + k, by rw [hd, World.drewN_drewN]⟩
          clear hcx hsx ht hu F' hp hsC hsS hatr hMi
          go_wp2
          go_quiet (first | (go_at_call 20; exact Calls.quiet_of (HC1.out _)) | (go_at_call 19; exact Calls.quiet_of (HC2.out _)))
          go_wp2
          go_roundw
          case rel => exact ⟨j + 1, u, by omega, rfl, by go_num, HV.out, HW.out _⟩
          case measure => simp [intOf]; omega
        · have hjb : ¬ (j : Int) < (M : Int) := by omega
          have hje : j = M := by omega
          subst hje
          have HO : Hid (OwnI w2.heap.size (.slice so i sca) (zl i fun j => ((y j : Nat) : Int)) wr ∧ Below w2.heap.size w2 wr ∧ x = dt D c (fun k => y (i - 1 - k)) j) := by
            obtain ⟨d, hd⟩ := HX.out.2
            rw [hd]
            exact ⟨HG.out.2.1.drewN d, below_drewN2 HG.out.2.2.2.2 d, HX.out.1⟩
          have hsr := HO.out.2.1.size
          clear hMi
          go_wp2_with (at_builtin; refine append_int rfl _ _ rfl w2.heap.size _ (zl i fun j => ((y j : Nat) : Int)) rfl (HO.out.1.alloc _) ⟨_, 0, none⟩ 1 (x : Int) rfl (by simp) (by rw [zl_len]; omega) (by simp; omega) ?_; intro v5 w5 hown5 hgrow5)
          have HR : Hid (OwnI w2.heap.size v5 (zl (i + 1) fun t => (((fun t => if t = i then x else y t) t : Nat) : Int)) w5 ∧ El D (fun t => if t = i then x else y t) ∧ Made D c j (fun t => if t = i then x else y t) (i + 1) ∧ Below w2.heap.size w2 w5) := by
            refine ⟨?_, fun t => ?_, made_put HG.out.2.2.2.1 HG.out.1 HO.out.2.2, (HO.out.2.1.alloc hsr _).grown hgrow5 (by simp; omega) (fun k hk => (HO.out.1.lt k hk).1)⟩
            · rw [zl_succ, zl_congr (y := fun j => ((y j : Nat) : Int)) (fun t ht => by show (((if t = i then x else y t : Nat)) : Int) = _; rw [if_neg (by omega)])]
              show OwnI w2.heap.size v5 (zl i _ ++ [((if i = i then x else y i : Nat) : Int)]) w5
              rw [if_pos rfl]; exact hown5
            · show (if t = i then x else y t) < D.q
              split
              · rw [HO.out.2.2]; exact dt_lt (fld H1.out.1) _ _ _
              · exact HG.out.2.2.1 t
          have HMi : Hid (j ≤ i + 1) := by show j ≤ i + 1; have := HG.out.1; omega
          clear hown5 hgrow5
          go_roundw
          case rel => exact ⟨i + 1, _, by omega, by go_num, HMi.out, HR.out⟩
          case measure => simp [intOf]; omega
    · have hib : ¬ (i : Int) < (E : Int) := by omega
      have hie : i = E := by omega
      subst hie
      obtain ⟨A4, hA4⟩ : ∃ A4, i = A4 + 4 := ⟨i - 4, by have := HE.out; omega⟩
      have hw5 : IntKind.i64.wrap ((i : Int) - 4) = (A4 : Int) := wrap_to (by omega) (by omega)
      have hw6 : (i : Int) - 4 = (A4 : Int) := by omega
      have hAc : (A4 : Int) ≤ (sca : Int) := by have := HS.out.le; omega
      have HA4 : Hid (i = A4 + 4 ∧ 2 * M ≤ A4) := ⟨hA4, by have := HE.out; omega⟩
      have hA5 : A4 ≤ 30 := by omega
      have HSz2 : Hid (∀ wx, Below wA.heap.size wA wx → Calls Try.prog 18 #[.pointer (some ⟨F, 0, none⟩)] wx fun e w' => e = .returned (.int .i64 D.q) ∧ w' = wx) := fun wx hx => size_any (HFA.out.below hx HFA.out.ltF HFA.out.ltT)
      have HMs : Hid (∀ wx, Below wA.heap.size wA wx → Calls Try.prog 21 #[.int .i64 D.q, .slice so A4 sca] wx fun e w' => Below wA.heap.size wA w' ∧ ∃ ro rc C lc L O lo b, e = .returned (.tuple #[.slice ro (dgn C lc) rc, .int .i64 (L : Nat), .int .i64 0]) ∧ BMS D (fun j => if j < A4 then y j else 0) A4 C lc L O lo b ∧ Arg ro lc rc (fun j => ((C j : Nat) : Int)) w') := fun wx hx => by
        have hz : zc A4 (fun j => ((y j : Nat) : Int)) = fun j => if j < A4 then y j else 0 := by
          funext j; unfold zc; simp
        have hA0 : Arg so A4 sca (fun j => ((y j : Nat) : Int)) wA := ⟨fun j hj => HS.out.sl j (by omega), HS.out.lt, by omega, HS.out.nil, by have := HS.out.le; omega, HS.out.cap⟩
        refine (massey_any H1.out.1 (hA0.below hx) (chk_nat HG.out.2.2.1 (by omega))).mono ?_
        rintro e w' ⟨hb, ro, rc, C, lc, L, O, lo, b, rfl, hB, hA⟩
        rw [hz] at hB
        exact ⟨bel_up' hx hb, ro, rc, C, lc, L, O, lo, b, rfl, hB, hA⟩
      clear hA4
      go_wp2_with fail
      refine HPk.out.mono ?_
      rintro e w' ⟨rfl, hw⟩
      have hw := hw.symm
      subst hw
      go_wp2
      have hbc : Below wA.heap.size wA wA := Below.refl _ _
      refine wp_region_noPanic ?_
      go_region_held3 (fun _ => True) (exact True.intro)
        (first
          | (go_at_call 18; refine (HSz2.out _ (by first | exact hbc | exact hbc.drew | exact hbc.drew.drew)).mono ?_; rintro e w' ⟨rfl, hw⟩; have hw := hw.symm; subst hw)
          | (go_at_call 21; refine (HMs.out _ (by first | exact hbc | exact hbc.drew | exact hbc.drew.drew)).mono ?_; rintro e w6 ⟨hb6, ro, rc, C, lc, L, O, lo, b, rfl, hB, hAr⟩)
          | fail)
      refine NoPanic.normal ?_
      obtain ⟨lr, hlr⟩ : ∃ lr, lr = dgn C lc := ⟨_, rfl⟩
      rw [← hlr]
      have hlr1 : lr ≤ lc := by rw [hlr]; exact dgn_le _ _
      have hlcL := hB.lcL
      have hmd := bms_made H1.out.1 (k := 4) H2.out.1 HG.out.2.2.1 hB (by rw [← HA4.out.1]; exact HG.out.2.2.2.1) HA4.out.2
      have hLM := hmd.1
      have hbd : Bd lr C := by rw [hlr]; exact dgn_bd hB.bdc
      have hl1 : 1 ≤ lr := by
        rcases Nat.eq_zero_or_pos lr with e | e
        · have h := hbd 0 (by omega)
          rw [hB.rul.one] at h
          cases h
        · exact e
      have H6 : Hid (Sl ro lr C w6 ∧ LtB ro w6.heap.size ∧ C 0 = 1 ∧ El D C ∧ (∀ t, A4 ≤ t → t < i → pmul D lr C y t = 0) ∧ FAt F T D g w6 ∧ SlZ so i (fun j => ((y j : Nat) : Int)) w6 ∧ Below w2.heap.size w2 w6) := by
        refine ⟨fun j hj => hAr.sl j (by omega), hAr.lt, hB.rul.one, hB.rul.el, fun t h1 h2 => ?_, HFA.out.below hb6 HFA.out.ltF HFA.out.ltT, HS.out.sl.below hb6 HS.out.lt, bel_up' HG.out.2.2.2.2 hb6⟩
        have h := hmd.2 t (by have := HA4.out.2; omega) (by rw [← HA4.out.1]; exact h2)
        rw [pmul_to (fld H1.out.1) y hbd (by omega)] at h; exact h
      obtain ⟨bR, oR, rfl, hcR⟩ := H6.out.1 0 (by omega)
      rw [show oR + 0 = oR from rfl, H6.out.2.2.1] at hcR
      have hz1 : (((lr : Nat) : Int) == 0) = false := by rw [beq_eq_false_iff_ne]; omega
      have hz2 : ¬ (M : Int) < (L : Int) := by omega
      have hz3 : (0 : Int) < (lr : Int) := by omega
      have hz4 : ¬ (L : Int) + 1 < (lr : Int) := by omega
      have hz5 : IntKind.i64.wrap ((L : Int) + 1) = ((L + 1 : Nat) : Int) := wrap_to (by omega) (by omega)
      have hz6 : ¬ (((L + 1 : Nat) : Int) < (lr : Int)) := by omega
      have hlr30 : lr ≤ M + 1 := by omega
      clear hB hAr hb6 hlr hlr1 hlcL hmd hbd
      go_wp2
      go_loopw [19] (fun vi wr => ∃ t : Nat, A4 ≤ t ∧ t ≤ i ∧ vi = .int .i64 t ∧ Hid (∃ d, wr = w6.drewN d)) (fun vi _ => i - (intOf vi).toNat)
      case atStart => exact ⟨A4, Nat.le_refl _, by have := HA4.out.1; omega, rfl, 0, rfl⟩
      case round =>
        obtain ⟨t, hA4t, hti, rfl, HT⟩ := hrel
        rename World => wB
        by_cases htl : t < i
        · have htb : (t : Int) < (i : Int) := by omega
          go_wp2_with fail
          go_loopw [20, 21] (fun vv vk wr => ∃ (j x : Nat), j ≤ lr ∧ vv = .int .i64 (x : Nat) ∧ vk = .int .i64 j ∧ Hid (1 ≤ j ∧ x = D.sb (y t) (pmul D j C y t) ∧ ∃ d, wr = w6.drewN d)) (fun _ vk _ => lr - (intOf vk).toNat)
          case atStart =>
            refine ⟨1, 0, hl1, rfl, rfl, Nat.le_refl _, ?_, HT.out⟩
            have F' := fld H1.out.1
            show 0 = D.sb (y t) (D.ad 0 (psh 0 (pscale D (C 0) y) t))
            unfold psh pscale
            rw [if_pos (by omega), Nat.sub_zero, H6.out.2.2.1, omul F' (HG.out.2.2.1 t), zero_ad F' (HG.out.2.2.1 t), sb_self F' (HG.out.2.2.1 t)]
          case round =>
            obtain ⟨j, x, hj, rfl, rfl, HX⟩ := hrel
            rename World => wr
            have hsR : Sl (some ⟨bR, oR, none⟩) lr C wr := by
              obtain ⟨d, hd⟩ := HX.out.2.2
              rw [hd]; exact H6.out.1.drewN d
            have hsS : SlZ so i (fun j => ((y j : Nat) : Int)) wr := by
              obtain ⟨d, hd⟩ := HX.out.2.2
              rw [hd]; exact H6.out.2.2.2.2.2.2.1
            have hatr : FAt F T D g wr := by
              obtain ⟨d, hd⟩ := HX.out.2.2
              rw [hd]; exact H6.out.2.2.2.2.2.1.drewN d
            by_cases hjl : j < lr
            · have hjb : (j : Int) < (lr : Int) := by omega
              have hA2 := HA4.out.2
              obtain ⟨p, hp⟩ : ∃ p, p = t - j := ⟨_, rfl⟩
              obtain ⟨_, _, e1, hcC⟩ := hsR j hjl
              cases e1
              obtain ⟨bS, oS, rfl, hcS⟩ := hsS p (by omega)
              replace hcS : wr.cell? ⟨bS, oS + p, none⟩ = some (.int .i64 ((y p : Nat) : Int)) := hcS
              have hw7 : IntKind.i64.wrap ((t : Int) - (j : Int)) = (p : Int) := wrap_to (by omega) (by omega)
              have hpb : (p : Int) < (i : Int) := by omega
              obtain ⟨cx, hcx⟩ : ∃ cx, cx = C j := ⟨_, rfl⟩
              obtain ⟨sx, hsx⟩ : ∃ sx, sx = y p := ⟨_, rfl⟩
              rw [← hcx] at hcC
              rw [← hsx] at hcS
              obtain ⟨s, hs⟩ : ∃ s, s = D.mul cx sx := ⟨_, rfl⟩
              obtain ⟨u, hu⟩ : ∃ u, u = D.sb x s := ⟨_, rfl⟩
              have F' := fld H1.out.1
              have hpq : pmul D j C y t < D.q := el_mul F' _ _ _ _
              have hxq : x < D.q := by rw [HX.out.2.1]; exact sb_lt F' (HG.out.2.2.1 t) hpq
              have HC1 : Hid (∀ d, Calls Try.prog 20 #[.pointer (some ⟨F, 0, none⟩), .int .i64 (cx : Nat), .int .i64 (sx : Nat)] (wr.drewN d) fun e w' => e = .returned (.int .i64 (s : Nat)) ∧ ∃ k, w' = (wr.drewN d).drewN k) := fun d => by
                rw [hs]; exact mul_nat H1.out.1 (hatr.drewN d) (by rw [hcx]; exact H6.out.2.2.2.1 j) (by rw [hsx]; exact HG.out.2.2.1 p)
              have HC2 : Hid (∀ d, Calls Try.prog 22 #[.pointer (some ⟨F, 0, none⟩), .int .i64 (x : Nat), .int .i64 (s : Nat)] (wr.drewN d) fun e w' => e = .returned (.int .i64 (u : Nat)) ∧ ∃ k, w' = (wr.drewN d).drewN k) := fun d => by
                rw [hu]; exact sub_nat H1.out.1 (hatr.drewN d) hxq (by rw [hs]; exact F'.mul_lt _ _)
              have HV : Hid (u = D.sb (y t) (pmul D (j + 1) C y t)) := by
                show u = D.sb (y t) (D.ad (pmul D j C y t) (psh j (pscale D (C j) y) t))
                have e : psh j (pscale D (C j) y) t = s := by
                  unfold psh
                  rw [if_pos (by omega), hs, hcx, hsx, hp]; rfl
                rw [e, sb_ad2 F' (HG.out.2.2.1 t) hpq (by rw [hs]; exact F'.mul_lt _ _), ← HX.out.2.1, hu]
              have HW : Hid (∀ k, ∃ d, wr.drewN k = w6.drewN d) := fun k => by
                obtain ⟨d, hd⟩ := HX.out.2.2
                exact ⟨d + k, by rw [hd, World.drewN_drewN]⟩
              clear hcx hsx hs hu F' hp hsR hsS hatr hpq hxq hA2
              go_wp2
              go_quiet (first | (go_at_call 20; exact Calls.quiet_of (HC1.out _)) | (go_at_call 22; exact Calls.quiet_of (HC2.out _)))
              go_wp2
              go_roundw
              case rel => exact ⟨j + 1, u, by omega, rfl, by go_num, by omega, HV.out, HW.out _⟩
              case measure => simp [intOf]; omega
            · have hjb : ¬ (j : Int) < (lr : Int) := by omega
              have hje : j = lr := by omega
              subst hje
              have hxy : x = y t := by rw [HX.out.2.1, H6.out.2.2.2.2.1 t hA4t htl, sb_zero (fld H1.out.1) (HG.out.2.2.1 t)]
              obtain ⟨bS, oS, rfl, hcS⟩ := hsS t htl
              replace hcS : wr.cell? ⟨bS, oS + t, none⟩ = some (.int .i64 ((y t : Nat) : Int)) := hcS
              rw [← hxy] at hcS
              have HW : Hid (∃ d, wr = w6.drewN d) := HX.out.2.2
              clear hxy hsR hsS hatr
              go_wp2
              go_roundw
              case rel => exact ⟨t + 1, by omega, by omega, by go_num, HW.out⟩
              case measure => simp [intOf]; omega
        · have htb : ¬ (t : Int) < (i : Int) := by omega
          have HZ : Hid (Below w.heap.size w wB) := by
            obtain ⟨d, hd⟩ := HT.out
            rw [hd]
            exact bel_up' H1.out.2.2 (bel_up' H2.out.2.2.2 (below_drewN2 H6.out.2.2.2.2.2.2.2 d))
          go_wp2
          go_ret
          exact ⟨rfl, HZ.out⟩
end Go.Proofs.Ytcgmllamiaflcaa
