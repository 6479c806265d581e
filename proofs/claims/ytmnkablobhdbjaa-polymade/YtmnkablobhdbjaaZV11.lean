/- The reference's polynomials: parts (Factors), the walk. -/
import Derived.Test.YtmnkablobhdbjaaZW7
namespace Go.Proofs.Ytmnkablobhdbjaa
open Go.RowKit Go.Sort

set_option maxHeartbeats 8000000 in
set_option maxRecDepth 100000 in
theorem rfactors_any {D : FD} (hD : D ∈ fieldsL) (gen gm cm : Nat) {ao : Option Addr} {n ca l0 : Nat} {a : Nat → Nat} {w : World} (hn : n ≤ 128) (ha : El D a) (hbn : Bd n a) (hl0 : dgn a n = l0 + 1) (hA : Sl ao n a w) (hla : LtB ao w.heap.size)
    (hna : n ≤ ca) (hca : ca ≤ 9223372036854775807) (hza : ao = none → ca = 0) (hM : ModAt D (.slice (some ⟨gm, 0, none⟩) (D.m + 1) cm) D.md w) :
    Calls Try.prog 90 #[rf D.q D.p D.m gen (.slice (some ⟨gm, 0, none⟩) (D.m + 1) cm), .slice ao n ca] w fun e w' => ∃ v L, e = .returned v ∧ LLs w.heap.size v L w' ∧ Pre D L (D.mon a (dgn a n)) pone ∧ Below w.heap.size w w' := by
  have HF : Hid (D ∈ fieldsL ∧ El D a ∧ Bd n a ∧ dgn a n = l0 + 1) := ⟨hD, ha, hbn, hl0⟩
  have hl1 : l0 ≤ 127 := by have := dgn_le a n; omega
  have HM : Hid (ModAt D (.slice (some ⟨gm, 0, none⟩) (D.m + 1) cm) D.md w) := hM
  have HB0 : Hid (Box w.heap.size D gen (.slice (some ⟨gm, 0, none⟩) (D.m + 1) cm) (w.alloc (.cells #[.int .i64 D.q, .int .i64 D.p, .int .i64 D.m, .int .i64 gen, .slice (some ⟨gm, 0, none⟩) (D.m + 1) cm] 28))) := box_new D gen _ w
  have hbl : Below w.heap.size w (w.alloc (.cells #[.int .i64 D.q, .int .i64 D.p, .int .i64 D.m, .int .i64 gen, .slice (some ⟨gm, 0, none⟩) (D.m + 1) cm] 28)) := (Below.refl _ _).alloc (Nat.le_refl _) _
  have HS : Hid (Sl ao n a (w.alloc (.cells #[.int .i64 D.q, .int .i64 D.p, .int .i64 D.m, .int .i64 gen, .slice (some ⟨gm, 0, none⟩) (D.m + 1) cm] 28)) ∧ LtB ao w.heap.size ∧ (ao = none → ca = 0) ∧ Below w.heap.size w (w.alloc (.cells #[.int .i64 D.q, .int .i64 D.p, .int .i64 D.m, .int .i64 gen, .slice (some ⟨gm, 0, none⟩) (D.m + 1) cm] 28)) ∧ ModAt D (.slice (some ⟨gm, 0, none⟩) (D.m + 1) cm) D.md (w.alloc (.cells #[.int .i64 D.q, .int .i64 D.p, .int .i64 D.m, .int .i64 gen, .slice (some ⟨gm, 0, none⟩) (D.m + 1) cm] 28))) := ⟨hA.below hbl hla, hla, hza, hbl, hM.below hbl⟩
  have hq64 := (fld hD).q64
  clear hD ha hbn hM hA hla hza hbl hl0
  obtain ⟨a0, ha0⟩ : ∃ a0, a0 = D.mon a (dgn a n) := ⟨_, rfl⟩
  rw [← ha0]
  have HA0 : Hid (a0 = D.mon a (dgn a n) ∧ Mn D l0 a0) := ⟨ha0, by
    rw [ha0, HF.out.2.2.2]
    have ht := trd_dgn (c := a) (n := n) HF.out.2.2.1
    rw [HF.out.2.2.2] at ht
    exact mon_mn HF.out.1 HF.out.2.1 ht⟩
  clear ha0
  unfold rf
  go_enter Try.func90, Try.ntmps90
  go_wp2_with fail
  refine (rmonic_any HF.out.1 gen gm cm (show n ≤ 1000 by omega) HF.out.2.1 HF.out.2.2.1 HS.out.1 (HS.out.2.1.mono (by simp)) hna hca HS.out.2.2.1 HS.out.2.2.2.2).mono ?_
  rintro e w1 ⟨va, rfl, hoa, hb1⟩
  rw [← HA0.out.1, HF.out.2.2.2] at hoa
  have hs1 := hb1.size
  have HW1 : Hid (Elm va (l0, a0) w1 ∧ Below w.heap.size w w1 ∧ Box w.heap.size D gen (.slice (some ⟨gm, 0, none⟩) (D.m + 1) cm) w1) :=
    ⟨hoa.elm, bel_up' HS.out.2.2.2.1 hb1, HB0.out.below hb1 (by simp)⟩
  have hs1' : w.heap.size < w1.heap.size := by simp at hs1; omega
  clear hoa hb1 hs1 HB0 HS
  go_upto_block 0 with fail
  go_cut [1, 5] (fun va vo wc => ∃ (da dx : Nat) (a x : Nat → Nat) (L : List (Nat × (Nat → Nat))), L.length + da ≤ 127 ∧ Hid (PSt D a0 a x L da dx ∧ da < 2 * dx) ∧ Hid (Elm va (da, a) wc ∧ LLs (w.heap.size + 1) vo L wc ∧ Below w.heap.size w wc) ∧ w.heap.size < wc.heap.size)
  case first =>
    go_wp2_with fail
    go_loopw [1, 5, 6] (fun va vo vd wr => ∃ (da d : Nat) (a : Nat → Nat) (L : List (Nat × (Nat → Nat))), L.length + da ≤ 127 ∧ 1 ≤ d ∧ d ≤ 128 ∧ vd = .int .i64 d ∧ Hid (PSt D a0 a (xpow d) L da d) ∧ Hid (Elm va (da, a) wr ∧ LLs (w.heap.size + 1) vo L wr ∧ Below w.heap.size w wr ∧ Box w.heap.size D gen (.slice (some ⟨gm, 0, none⟩) (D.m + 1) cm) wr) ∧ w.heap.size < wr.heap.size) (fun _ _ vd _ => 200 - (intOf vd).toNat)
    case atStart => exact ⟨l0, 1, a0, [], by simpa using hl1, by omega, by omega, rfl, pst_first HA0.out.2 (xpow_mn (fld HF.out.1) 1) (dnum_zero _ _ (fun j hj => by unfold xpow; rw [if_neg (by omega)])), ⟨HW1.out.1, LLs.nil _ _, HW1.out.2.1, HW1.out.2.2⟩, hs1'⟩
    case round =>
      clear HW1 hs1'
      obtain ⟨da, d, a1, L, hLd, hd1, hd2, rfl, HP, HG, hsz⟩ := hrel
      obtain ⟨ga, ca1, rfl, hga1, hga2, _⟩ := HG.out.1
      clear hga1 hga2
      by_cases hst : da < 2 * d
      · by_cases hlt : d < da + 1
        · have hl2 : (d : Int) < (da : Int) + 1 := by omega
          have hl3 : ¬ 2 * (d : Int) ≤ (da : Int) := by omega
          go_wp2
          go_meet
          case rel => exact ⟨da, d, a1, _, L, hLd, ⟨HP.out, hst⟩, ⟨HG.out.1, HG.out.2.1, HG.out.2.2.1⟩, hsz⟩
        · have hl2 : ¬ (d : Int) < (da : Int) + 1 := by omega
          go_wp2
          go_meet
          case rel => exact ⟨da, d, a1, _, L, hLd, ⟨HP.out, hst⟩, ⟨HG.out.1, HG.out.2.1, HG.out.2.2.1⟩, hsz⟩
      · have hl2 : (d : Int) < (da : Int) + 1 := by omega
        have hl3 : 2 * (d : Int) ≤ (da : Int) := by omega
        clear hst
        go_wp2_with (at_make; refine make_int rfl _ _ rfl _ d rfl rfl (by omega) (by omega) ?_; intro w2 hown2 hgrow2)
        have HI : Hid (Row wr.heap.size d (xpow d) w2 ∧ Below wr.heap.size wr w2) := ⟨(row_zeros hown2).congr (fun k hk => by unfold xpow; rw [if_neg (by omega)]; rfl), below_grown hgrow2 (Nat.le_refl _) (fun k hk => by simp at hk)⟩
        have hs2 : wr.heap.size < w2.heap.size := HI.out.1.lt
        clear hown2 hgrow2
        obtain ⟨g, hg⟩ : ∃ g, g = wr.heap.size := ⟨_, rfl⟩
        rw [← hg] at HI hs2 ⊢
        have hgw : w.heap.size < g := by omega
        have HI2 : Hid (TrySt D gen gm cm a0 g d w (tryM D d da (xpow d)) (.slice (some ⟨ga, 0, none⟩) (da + 1) ca1) u5 (.bool true) w2) := by
          have hb := HI.out.2
          rw [hg] at hb
          have hx := HG.out.2.1.fresh
          rw [← hg] at hx
          refine ⟨da, a1, L, hLd, hs2, ⟨HG.out.1.below hb (Nat.le_refl _), ?_, hx.below hb (Nat.le_refl _), bel_up' HG.out.2.2.1 hb, HG.out.2.2.2.below hb hsz⟩, Or.inl ⟨rfl, _, HI.out.1, HP.out, rfl⟩⟩
          intro e
          have e : some ga = some g := e
          cases e
          obtain ⟨g', c', e', _, _, hr⟩ := HG.out.1
          cases e'
          have := hr.lt
          omega
        have hd3 : d ≤ 63 := by omega
        clear HI HP HG hg hLd hl2 hl3
        go_wp2_with fail
        go_loopg [1, 5, 8] (tryM D d da (xpow d)) (fun k va vo vm wi => TrySt D gen gm cm a0 g d w k va vo vm wi)
        case atStart => exact HI2.out
        case round =>
          clear HI2
          obtain ⟨da2, a2, L2, hLd2, hgs, HG, hm⟩ := hrel
          obtain ⟨ga2, cc2, rfl, hq1, hq2, _⟩ := HG.out.1
          clear hq1 hq2
          rcases hm with ⟨rfl, x, HX⟩ | ⟨rfl, HX⟩
          · have HC : Hid (Calls Try.prog 79 #[.slice (some ⟨g, 0, none⟩) d d] wr fun e w' => ∃ v, e = .returned v ∧ OwnI wr.heap.size v (zl d fun j => (x j : Nat)) w' ∧ Below wr.heap.size wr w') := copyI_any ((HX.out.1.sl (Nat.le_refl _)).z) (by omega) (fun e => by cases e) (fun y hy => by cases hy; exact hgs)
            go_wp2_with (first
              | (go_at_call 79; refine HC.out.mono ?_; rintro e w3 ⟨vc, rfl, hoc, hb3⟩)
              | (at_builtin; refine append_int rfl _ _ rfl wr.heap.size vc _ rfl (hoc.alloc _) ⟨w3.heap.size, 0, none⟩ 1 1 rfl (by rw [cell_of_row _ _ _ _ _ (0, 0) (two_new _)]; rfl) (by rw [zl_len]; omega) (by have := hb3.size; simp; omega) ?_; intro vx w4 hox hg4; have hb4 := (bel_up' hb3 ((Below.refl _ _).alloc (Nat.le_refl _) _)).grown hg4 (by have := hb3.size; simp; omega) hoc.block; have HX4 := tryX_new hox HX.out.2.1.mnx; have HB4 := hb4; obtain ⟨k0, k1, k2, k3, k4⟩ := HG.out.2.2.2.2.below hb4 (by omega); obtain ⟨gx, cx, rfl, hx1, hx2, hx3⟩ := HX4))
            have hgx : wr.heap.size ≤ gx := hox.block gx rfl
            have HW4 : Hid (Elm (.slice (some ⟨gx, 0, none⟩) (d + 1) cx) (d, x) w4 ∧ Below wr.heap.size wr w4) := ⟨⟨gx, cx, rfl, hx1, hx2, hx3⟩, hb4⟩
            have hs4 := hb4.size
            clear hoc hb3 hox hg4 hb4 HB4 hx1 hx2 hx3 HC k0 k1 k2 k3 k4
            have hd5 := HX.out.2.1
            refine (rdiv_found HF.out.1 gen gm cm HX.out.2.1.mna HX.out.2.1.mnx (HG.out.1.below HW4.out.2 (Nat.le_refl _)) HW4.out.1 (by omega) (by omega) (HM.out.below (bel_up' HG.out.2.2.2.1 HW4.out.2))).mono ?_
            clear hd5
            rintro e w5 ⟨vq, vr, rfl, hb5, hr⟩
            have HW5 : Hid (Elm (.slice (some ⟨gx, 0, none⟩) (d + 1) cx) (d, x) w5 ∧ Below wr.heap.size wr w5 ∧ Row g d x w5) := ⟨HW4.out.1.below hb5 (Nat.le_refl _), bel_up' HW4.out.2 hb5, HX.out.1.below (bel_up' HW4.out.2 hb5) hgs⟩
            have hs5 := hb5.size
            have hgx5 : gx < w5.heap.size := by
              obtain ⟨g', c', e', _, _, hr'⟩ := HW5.out.1
              cases e'
              exact hr'.lt
            obtain ⟨k0, k1, k2, k3, k4⟩ := HG.out.2.2.2.2.below HW5.out.2.1 (by omega)
            clear HW4
            rcases hr with ⟨db, b, ro, rc, rfl, heq, hbq, hmb, hdd, hab⟩ | ⟨hnp, ro, rn, rc, rfl⟩
            · have HD : Hid (Elm vq (db, b) w5 ∧ vq.ownBlock ≠ some g ∧ PSt D a0 b x (L2 ++ [(d, x)]) db d) := by
                refine ⟨heq, fun e => ?_, ?_⟩
                · have := hbq g e; omega
                · obtain ⟨db', h1, h2, h3⟩ := pst_found HF.out.1 HX.out.2.1 hmb.el hmb.bd hab
                  rw [show db = db' from by omega]; exact h3
              obtain ⟨l, hov, hels, hne⟩ := HG.out.2.2.1.below HW5.out.2.1 (Nat.le_refl _)
              have hll : l.length ≤ 1000000 := by rw [hels.1]; omega
              have HV : Hid (OwnV (w.heap.size + 1) u5 l w5 ∧ Elms l L2 w5 ∧ ∀ u ∈ l, u.ownBlock ≠ some g) := ⟨hov, hels, hne⟩
              have hz : (da2 : Int) + 1 > (d : Int) := by omega
              clear hb5 heq hbq hmb hab hov hels hne
              go_wp2_with (at_builtin; refine append_sl rfl _ _ rfl (w.heap.size + 1) u5 l rfl (HV.out.1.below ((Below.refl _ _).alloc (Nat.le_refl _) _) (Nat.le_refl _)) ⟨w5.heap.size, 0, none⟩ 1 (.slice (some ⟨gx, 0, none⟩) (d + 1) cx) rfl rfl (by rw [cell_of_row _ _ _ _ _ (0, 0) (two_new _)]; rfl) hll (by simp; omega) ?_; intro v' w6 hown6 hg6)
              have hal : Below w5.heap.size w5 (w5.alloc (.cells #[.slice (some ⟨gx, 0, none⟩) (d + 1) cx] 26)) := (Below.refl _ _).alloc (Nat.le_refl _) _
              have ho := HV.out.1.below hal (Nat.le_refl _)
              have hsg := hg6.size
              have hbw := bel_up' HG.out.2.2.2.1 (bel_up' HW5.out.2.1 hal)
              have hrg := HW5.out.2.2.below hal (by omega)
              have HR : Hid (TrySt D gen gm cm a0 g d w (tryM D d db x) vq v' (.bool true) w6) := by
                refine ⟨db, b, L2 ++ [(d, x)], by rw [List.length_append, List.length_singleton]; omega, by simp at hsg; omega, ⟨(HD.out.1.below hal (Nat.le_refl _)).grown ho hg6, HD.out.2.1, ⟨_, hown6, ((HV.out.2.1.below hal (Nat.le_refl _)).snoc (HW5.out.1.below hal (Nat.le_refl _))).grown ho hg6, ?_⟩, ?_, ?_⟩, Or.inl ⟨rfl, x, hrg.other (hg6.block g hrg.lt (hrg.apart ho)), HD.out.2.2, rfl⟩⟩
                · intro u hu
                  rcases List.mem_append.1 hu with h | h
                  · exact HV.out.2.2 u h
                  · rw [List.mem_singleton.1 h]
                    intro e
                    have e : some gx = some g := e
                    cases e
                    omega
                · exact hbw.grown hg6 (by simp; omega) (fun k hk => by have := ho.open_ge k hk; omega)
                · have hbx := (HG.out.2.2.2.2.below HW5.out.2.1 (by omega)).below hal (by omega)
                  refine hbx.other (hg6.block w.heap.size (by simp; omega) fun e => ?_)
                  have := ho.open_ge _ e.symm
                  omega
              clear hown6 hg6 ho hsg hbw hrg hal
              go_roundg (tryM D d db x)
              case measure =>
                have h := HX.out.2.2
                rw [h]
                exact tryM_found (fld HF.out.1) (by omega)
              case rel => exact HR.out
            · clear hb5
              go_wp2_with fail
              refine (rnext_any HF.out.1 HX.out.2.1.mnx (by omega) HW5.out.2.2).mono ?_
              rintro e w6 ⟨hg6, hr6⟩
              have hsg := hg6.size
              have HR : Hid (g < w6.heap.size ∧ Elm (.slice (some ⟨ga2, 0, none⟩) (da2 + 1) cc2) (da2, a2) w6 ∧ LLx g (w.heap.size + 1) u5 L2 w6 ∧ Below w.heap.size w w6 ∧ Box w.heap.size D gen (.slice (some ⟨gm, 0, none⟩) (D.m + 1) cm) w6) := by
                refine ⟨by omega, (HG.out.1.below HW5.out.2.1 (Nat.le_refl _)).apart hg6 HG.out.2.1, (HG.out.2.2.1.below HW5.out.2.1 (Nat.le_refl _)).apart HW5.out.2.2 hg6, (bel_up' HG.out.2.2.2.1 HW5.out.2.1).grown hg6 (by omega) (fun k hk => by cases hk; omega), ?_⟩
                refine (HG.out.2.2.2.2.below HW5.out.2.1 (by omega)).other (hg6.block w.heap.size (by omega) fun e => ?_)
                cases e
                omega
              have HNP : Hid (¬ PD D x a2) := hnp
              clear hg6 hsg hnp k0 k1 k2 k3 k4
              rcases hr6 with ⟨rfl, c', hrow', hm', haf⟩ | ⟨rfl, h9, hrow'⟩
              · have HN : Hid (TrySt D gen gm cm a0 g d w (tryM D d da2 c') (.slice (some ⟨ga2, 0, none⟩) (da2 + 1) cc2) u5 (.bool true) w6 ∧ tryM D d da2 c' < gk) := by
                  have h := HX.out.2.2
                  refine ⟨⟨da2, a2, L2, hLd2, HR.out.1, ⟨HR.out.2.1, HG.out.2.1, HR.out.2.2.1, HR.out.2.2.2.1, HR.out.2.2.2.2⟩, Or.inl ⟨rfl, c', hrow', (pst_next (fld HF.out.1) HX.out.2.1 HNP.out hm' haf).1, rfl⟩⟩, ?_⟩
                  rw [h]
                  exact tryM_next HX.out.2.1.mnx hm' haf
                clear hrow' hm' haf
                go_wp2
                go_roundg (tryM D d da2 c')
                case measure => exact HN.out.2
                case rel => exact HN.out.1
              · have HN : Hid (TrySt D gen gm cm a0 g d w 0 (.slice (some ⟨ga2, 0, none⟩) (da2 + 1) cc2) u5 (.bool false) w6 ∧ 0 < gk) := by
                  have h := HX.out.2.2
                  refine ⟨⟨da2, a2, L2, hLd2, HR.out.1, ⟨HR.out.2.1, HG.out.2.1, HR.out.2.2.1, HR.out.2.2.2.1, HR.out.2.2.2.2⟩, Or.inr ⟨rfl, (pst_next (fld HF.out.1) HX.out.2.1 HNP.out (xpow_mn (fld HF.out.1) _) (xpow_aft (fld HF.out.1) h9)).1⟩⟩, ?_⟩
                  rw [h]
                  exact tryM_pos _ _ _ _
                clear hrow' h9
                go_wp2
                go_roundg 0
                case measure => exact HN.out.2
                case rel => exact HN.out.1
          · go_wp2
            go_roundw
            case rel => exact ⟨da2, d + 1, a2, L2, hLd2, by omega, by omega, by go_num, HX.out, ⟨HG.out.1, HG.out.2.2.1.lls, HG.out.2.2.2.1, HG.out.2.2.2.2⟩, by omega⟩
            case measure => simp [intOf]; omega
  case rest =>
    clear HW1 hs1'
    obtain ⟨da, dx, a1, x, L, hLd, HP, HG, hsz⟩ := hcut
    obtain ⟨ga, ca1, rfl, hga1, hga2, _⟩ := HG.out.1
    clear hga1 hga2
    go_upto_if 64 with fail
    go_cut [5] (fun vo wc => ∃ (L : List (Nat × (Nat → Nat))), L.length ≤ 127 ∧ Hid (Pre D L a0 pone) ∧ Hid (LLs (w.heap.size + 1) vo L wc ∧ Below w.heap.size w wc))
    case first =>
      by_cases h1 : 1 ≤ da
      · have hz : (1 : Int) < (da : Int) + 1 := by omega
        have HE : Hid (Pre D (L ++ [(da, a1)]) a0 pone) := pst_end HF.out.1 HP.out.1 HP.out.2 h1
        obtain ⟨l, hov, hels⟩ := HG.out.2.1
        have hll : l.length ≤ 1000000 := by rw [hels.1]; omega
        have HV : Hid (OwnV (w.heap.size + 1) u5 l wc ∧ Elms l L wc) := ⟨hov, hels⟩
        clear hov hels
        go_wp2_with (at_builtin; refine append_sl rfl _ _ rfl (w.heap.size + 1) u5 l rfl (HV.out.1.below ((Below.refl _ _).alloc (Nat.le_refl _) _) (Nat.le_refl _)) ⟨wc.heap.size, 0, none⟩ 1 (.slice (some ⟨ga, 0, none⟩) (da + 1) ca1) rfl rfl (by rw [cell_of_row _ _ _ _ _ (0, 0) (two_new _)]; rfl) hll (by simp; omega) ?_; intro v' w5 hown5 hgrow5)
        go_meet
        case rel =>
          have hal : Below wc.heap.size wc (wc.alloc (.cells #[.slice (some ⟨ga, 0, none⟩) (da + 1) ca1] 26)) := (Below.refl _ _).alloc (Nat.le_refl _) _
          have ho := HV.out.1.below hal (Nat.le_refl _)
          refine ⟨L ++ [(da, a1)], by rw [List.length_append, List.length_singleton]; omega, HE.out, ⟨_, hown5, ((HV.out.2.below hal (Nat.le_refl _)).snoc (HG.out.1.below hal (Nat.le_refl _))).grown ho hgrow5⟩, ?_⟩
          exact (bel_up' HG.out.2.2 hal).grown hgrow5 (by simp; omega) (fun k hk => by have := ho.open_ge k hk; omega)
      · have e0 : da = 0 := by omega
        subst e0
        have HE : Hid (Pre D L a0 pone) := pst_end0 HP.out.1
        go_wp2
        go_meet
        case rel => exact ⟨L, by omega, HE.out, HG.out.2.1, HG.out.2.2⟩
    case rest =>
      clear HP HG hLd L
      obtain ⟨L, hL, HP, HG⟩ := hcut
      obtain ⟨l, hov, hels⟩ := HG.out.1
      have hlen := hels.1
      obtain ⟨oo, oc, hoo, hon, hlt, hge, hcell⟩ := hov.open
      subst hoo
      rw [hlen]
      have HO : Hid (Elms l L wc ∧ (∀ (j : Nat) (u : Value), l[j]? = some u → ∃ g, oo = some ⟨g, 0, none⟩ ∧ wc.cell? ⟨g, j, none⟩ = some u ∧ wc.frozen? ⟨g, j, none⟩ = false) ∧ l.length = L.length) := ⟨hels, hcell, hlen⟩
      have HR : Hid (LLs w.heap.size (.slice oo L.length oc) L wc ∧ Below w.heap.size w wc) := ⟨by have h := HG.out.1; rw [hlen] at h; exact h.mono (by omega), HG.out.2⟩
      clear hov hels hlen hon hlt hge hcell HG
      go_wp2_with fail
      go_loopw [12] (fun i wr => ∃ r : Nat, r ≤ L.length ∧ i = .int .i64 r ∧ ∃ n, wr = wc.drewN n) (fun i _ => L.length - (intOf i).toNat)
      case atStart => exact ⟨0, by omega, rfl, 0, rfl⟩
      case round =>
        obtain ⟨r, hr, rfl, n, rfl⟩ := hrel
        by_cases hlt : r < L.length
        · have hl2 : (r : Int) < (L.length : Int) := by omega
          go_wp2_with fail
          refine wp_loop_rounds 1 ?_
          rw [rounds_succ]
          cases r with
          | zero =>
            go_wp2
            go_quiet (fail)
            go_wp2
            go_roundw
            case rel => exact ⟨1, by omega, by go_num, _, by first | rfl | rw [World.drewN_drewN]⟩
            case measure => simp [intOf]; omega
          | succ r =>
            obtain ⟨p, hp⟩ : ∃ p, L[r]? = some p := ⟨L[r], List.getElem?_eq_getElem (by omega)⟩
            obtain ⟨p', hp'⟩ : ∃ p', L[r + 1]? = some p' := ⟨L[r + 1], List.getElem?_eq_getElem hlt⟩
            obtain ⟨v, hv⟩ : ∃ v, l[r]? = some v := ⟨l[r]'(by have := HO.out.2.2; omega), List.getElem?_eq_getElem _⟩
            obtain ⟨v', hv'⟩ : ∃ v', l[r + 1]? = some v' := ⟨l[r + 1]'(by have := HO.out.2.2; omega), List.getElem?_eq_getElem _⟩
            obtain ⟨go, rfl, hc1, _⟩ := HO.out.2.1 r v hv
            obtain ⟨go', hgo, hc2, _⟩ := HO.out.2.1 (r + 1) v' hv'
            cases hgo
            have he := HO.out.1.2 r v p hv hp
            have he' := HO.out.1.2 (r + 1) v' p' hv' hp'
            have hnb := pre_sorted (fld HF.out.1) L a0 pone HP.out r p p' hp hp'
            have hmn := (pre_mn L a0 pone HP.out p (List.mem_of_getElem? hp)).1
            have hmn' := (pre_mn L a0 pone HP.out p' (List.mem_of_getElem? hp')).1
            have hdg := pre_deg HF.out.1 HA0.out.2 HP.out p (List.mem_of_getElem? hp)
            have hdg' := pre_deg HF.out.1 HA0.out.2 HP.out p' (List.mem_of_getElem? hp')
            obtain ⟨g1, q1, rfl, hq1, hq2, hr1⟩ := he
            obtain ⟨g2, q2, rfl, hq3, hq4, hr2⟩ := he'
            obtain ⟨dp, xp⟩ := p
            obtain ⟨dq, xq⟩ := p'
            simp only at hc1 hc2 hnb hmn hmn' hr1 hr2 hdg hdg' hq1 hq3
            have hn1 : ¬ dq < dp := fun h => hnb (Or.inl h)
            have hib1 : (r : Int) + 1 < (L.length : Int) := by omega
            have hib0 : (r : Int) < (L.length : Int) := by omega
            have hr0 : ¬ ((r : Int) + 1 = 0) := by omega
            have hr9 : (0 : Int) < (r : Int) + 1 := by omega
            have hr8 : (0 : Int) ≤ (r : Int) + 1 := by omega
            have hr7 : (0 : Int) ≤ (r : Int) := by omega
            have hr6 : ((r : Int) + 1).toNat = r + 1 := by omega
            have hz1 : decide ((dq : Int) + 1 < (dp : Int) + 1) = false := decide_eq_false (by omega)
            by_cases heq : dq = dp
            · subst heq
              have HB : Hid (∀ k, Calls Try.prog 105 #[.slice (some ⟨g2, 0, none⟩) (dq + 1) q2, .slice (some ⟨g1, 0, none⟩) (dq + 1) q1] (wc.drewN (n + k)) fun e w' => e = .returned (.bool false) ∧ ∃ m, w' = wc.drewN (n + m)) := fun k => by
                refine (rbelow_any (w := wc.drewN (n + k)) hmn' hmn (by omega) (hr2.sl (Nat.le_refl _)) (hr1.sl (Nat.le_refl _)) (fun h => hnb (Or.inr ⟨rfl, h⟩))).mono ?_
                rintro e w' ⟨rfl, m, rfl⟩
                exact ⟨rfl, k + m, by rw [World.drewN_drewN, Nat.add_assoc]⟩
              have hz2 : (((dq : Int) + 1) == ((dq : Int) + 1)) = true := by simp
              clear hp hp' hv hv' hnb hmn hmn' hr1 hr2 hdg
              go_wp2
              go_big_quiet (first | (go_at_call 105; exact HB.out _))
              go_wp2
              go_roundw
              case rel => exact ⟨r + 2, by omega, by go_num, _, by first | rfl | rw [World.drewN_drewN]⟩
              case measure => simp [intOf]; omega
            · have hz2 : (((dq : Int) + 1) == ((dp : Int) + 1)) = false := by rw [beq_eq_false_iff_ne]; omega
              clear hp hp' hv hv' hnb hmn hmn' hr1 hr2
              go_wp2
              go_quiet (fail)
              go_wp2
              go_roundw
              case rel => exact ⟨r + 2, by omega, by go_num, _, by first | rfl | rw [World.drewN_drewN]⟩
              case measure => simp [intOf]; omega
        · have hl2 : ¬ (r : Int) < (L.length : Int) := by omega
          go_wp2
          go_ret
          exact ⟨_, rfl, L, HR.out.1.below (below_drewN2 (Below.refl wc.heap.size _) n) (Nat.le_refl _), HP.out, below_drewN2 HR.out.2 n⟩
end Go.Proofs.Ytmnkablobhdbjaa
