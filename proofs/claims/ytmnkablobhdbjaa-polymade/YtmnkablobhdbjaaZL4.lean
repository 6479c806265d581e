/- PolySays: roots and parts (polyRoots), the rest. -/
import Derived.Test.YtmnkablobhdbjaaZL1
namespace Go.Proofs.Ytmnkablobhdbjaa
open Go.RowKit

set_option maxHeartbeats 8000000 in
set_option maxRecDepth 100000 in
theorem polyRoots_ok {D : FD} (hD : D ∈ fieldsL) {ao : Option Addr} {n ca : Nat} {z : Nat → Int} {w : World} (ha : Arg ao n ca z w) (h0 : D.chk n z = 0) {l : Nat} (hl : dgn (zc n z) n = l + 1) :
    Calls Try.prog 58 #[.int .i64 D.q, .slice ao n ca, .int .i64 0] w fun r w' => r = .returned (.bool true) ∧ Below w.heap.size w w' := by
  have HA : Hid (D ∈ fieldsL ∧ Arg ao n ca z w) := ⟨hD, ha⟩
  have HN : Hid (D.chk n z = 0 ∧ dgn (zc n z) n = l + 1 ∧ ¬ dgn (zc n z) n = 0) := ⟨h0, hl, by omega⟩
  have hn128 := (chk_zero h0).1
  have hl1 : l + 1 ≤ n := by rw [← hl]; exact dgn_le _ _
  have h64 := (fld hD).q64
  have h2q := (fld hD).q2
  have HT : Hid (∀ w1, Below w.heap.size w w1 → Calls Try.prog 51 #[.slice ao n ca] w1 fun e w' => ∃ bo cb, e = .returned (.slice bo (l + 1) cb) ∧ Below w1.heap.size w1 w') := fun w1 hb1 => by
    have ha1 := ha.below hb1
    refine (rtrim_any (zc_sl h0 ha1.sl) ha1.le ha1.cap ha1.nil ha1.lt ha1.few).mono ?_
    rintro e w' ⟨v, rfl, ho, hb⟩
    rw [hl] at ho
    obtain ⟨bo, cb, rfl, _⟩ := ho.open
    exact ⟨bo, cb, rfl, hb⟩
  have hz1 : ((l : Int) + 1 == 0) = false := by rw [beq_eq_false_iff_ne]; omega
  clear hD ha h0 hl
  go_enter Try.func58, Try.ntmps58
  go_wp2_with fail
  refine (HT.out w (Below.refl _ _)).mono ?_
  rintro e w1 ⟨bo, cb, rfl, hb1⟩
  have HB1 : Hid (Below w.heap.size w w1) := hb1
  clear hb1
  go_wp2_with fail
  refine (rfield_sl HA.out.1 w1).mono ?_
  rintro e w2 ⟨gm, cm, rfl, hmod, hb2⟩
  have HM : Hid (ModAt D (.slice (some ⟨gm, 0, none⟩) (D.m + 1) cm) D.md w2 ∧ Below w.heap.size w w2) := ⟨hmod, bel_up HB1.out hb2⟩
  clear hmod hb2 HB1
  unfold rf
  have HB0 : Hid (Box w2.heap.size D D.gen (.slice (some ⟨gm, 0, none⟩) (D.m + 1) cm) (w2.alloc (.cells #[.int .i64 D.q, .int .i64 D.p, .int .i64 D.m, .int .i64 D.gen, .slice (some ⟨gm, 0, none⟩) (D.m + 1) cm] 28))) := box_new D D.gen _ w2
  have hs2 := HM.out.2.size
  go_wp2_with fail
  go_loopw [7, 12] (fun vl i wr => ∃ x : Nat, x ≤ D.q ∧ i = .int .i64 x ∧ Hid (OwnI (w2.heap.size + 1) vl (D.rootsL (zc n z) n x) wr ∧ Below w2.heap.size w2 wr ∧ Box w2.heap.size D D.gen (.slice (some ⟨gm, 0, none⟩) (D.m + 1) cm) wr) ∧ w2.heap.size < wr.heap.size) (fun _ i _ => D.q - (intOf i).toNat)
  case atStart => exact ⟨0, by omega, rfl, ⟨OwnI.nil _ _, (Below.refl _ _).alloc (Nat.le_refl _) _, HB0.out⟩, by simp⟩
  case round =>
    clear HB0
    obtain ⟨x, hx, rfl, HG, hsz⟩ := hrel
    have hlen := rootsL_len D (zc n z) n x
    obtain ⟨k0, k1, k2, k3, k4⟩ := HG.out.2.2
    by_cases hlt : x < D.q
    · have hl2 : (x : Int) < (D.q : Int) := by omega
      obtain ⟨y, hy⟩ : ∃ y, y = D.val (zc n z) n x n := ⟨_, rfl⟩
      have HC : Hid (Calls Try.prog 86 #[.agg #[.int .i64 D.q, .int .i64 D.p, .int .i64 D.m, .int .i64 D.gen, .slice (some ⟨gm, 0, none⟩) (D.m + 1) cm], .slice ao n ca, .int .i64 x] wr fun e w' => e = .returned (.int .i64 (y : Nat)) ∧ Below wr.heap.size wr w') := by
        show Calls _ _ _ _ _
        rw [hy]
        have hA := HA.out.2.below (bel_up HM.out.2 HG.out.2.1)
        exact rpat_any HA.out.1 D.gen gm cm hlt (by omega) (zc_el (fld HA.out.1) HN.out.1) hA.lt (zc_sl HN.out.1 hA.sl) (HM.out.1.below HG.out.2.1)
      go_wp2_with fail
      refine HC.out.mono ?_
      rintro e w3 ⟨rfl, hb3⟩
      have hs3 := hb3.size
      have HG3 : Hid (OwnI (w2.heap.size + 1) u7 (D.rootsL (zc n z) n x) w3 ∧ Below w2.heap.size w2 w3 ∧ Box w2.heap.size D D.gen (.slice (some ⟨gm, 0, none⟩) (D.m + 1) cm) w3) := ⟨HG.out.1.below hb3 (fun k hk => (HG.out.1.lt k hk).2), bel_up HG.out.2.1 hb3, HG.out.2.2.below hb3 hsz⟩
      clear HC hb3 k0 k1 k2 k3 k4 HG
      by_cases he : y = 0
      · have hbe : ((y : Int) == 0) = true := by rw [he]; rfl
        have HL : Hid (D.rootsL (zc n z) n (x + 1) = D.rootsL (zc n z) n x ++ [(x : Int)]) := rootsL_yes (by rw [← hy, he])
        clear he hy
        go_wp2_with (at_builtin; refine append_int rfl _ _ rfl (w2.heap.size + 1) _ (D.rootsL (zc n z) n x) rfl (HG3.out.1.alloc _) ⟨_, 0, none⟩ 1 x rfl (by simp) (by omega) (by simp; omega) ?_; intro v2 w4 hown4 hg4)
        have hal : Below w3.heap.size w3 (w3.alloc (.cells #[.int .i64 (x : Int)] 3)) := (Below.refl _ _).alloc (Nat.le_refl _) _
        have hs4 := hg4.size
        have HR : Hid (OwnI (w2.heap.size + 1) v2 (D.rootsL (zc n z) n (x + 1)) w4 ∧ Below w2.heap.size w2 w4 ∧ Box w2.heap.size D D.gen (.slice (some ⟨gm, 0, none⟩) (D.m + 1) cm) w4) := by
          refine ⟨by rw [HL.out]; exact hown4, (bel_up HG3.out.2.1 hal).grown hg4 (by simp; omega) (fun k hk => by have := (HG3.out.1.lt k hk).1; omega), ?_⟩
          refine (HG3.out.2.2.below hal (by omega)).other (hg4.block w2.heap.size (by simp; omega) fun e => ?_)
          have := (HG3.out.1.lt _ e.symm).1
          omega
        simp at hs4
        clear hown4 hg4 hal
        go_roundw
        case rel => exact ⟨x + 1, by omega, by go_num, HR.out, by omega⟩
        case measure => simp [intOf]; omega
      · have hbe : ((y : Int) == 0) = false := beq_eq_false_iff_ne.2 (by omega)
        have HL : Hid (D.rootsL (zc n z) n (x + 1) = D.rootsL (zc n z) n x) := rootsL_no (by rw [← hy]; exact he)
        clear he hy
        go_wp2
        go_roundw
        case rel => exact ⟨x + 1, by omega, by go_num, ⟨by rw [HL.out]; exact HG3.out.1, HG3.out.2.1, HG3.out.2.2⟩, by omega⟩
        case measure => simp [intOf]; omega
    · have hl2 : ¬ (x : Int) < (D.q : Int) := by omega
      have hxq : x = D.q := by omega
      subst hxq
      obtain ⟨p, hp⟩ : ∃ p, p = l / 2 := ⟨_, rfl⟩
      have HTr : Hid (∀ w : World, Calls Try.prog 89 #[.int .i64 D.q, .int .i64 l] w fun e w' => e = .returned (.bool (decide (D.q ^ p ≤ 4096))) ∧ w' = w) := fun w => by rw [hp]; exact tries_any D.q l w (by omega) h64 (by omega)
      have HPP : Hid (p = l / 2) := hp
      clear hp k0 k1 k2 k3 k4
      go_wp2_with (first
        | (go_at_call 51; refine (HT.out _ (bel_up HM.out.2 HG.out.2.1)).mono ?_; rintro e w4 ⟨bo4, cb4, rfl, hb4⟩))
      refine (HTr.out _).mono ?_
      rintro e w' ⟨rfl, hw⟩
      have hw := hw.symm
      subst hw
      obtain ⟨vl, hvl⟩ : ∃ vl, vl = u7 := ⟨_, rfl⟩
      rw [← hvl] at HG ⊢
      clear hvl HT HTr
      have HG4 : Hid (OwnI (w2.heap.size + 1) vl (D.rootsL (zc n z) n D.q) w4 ∧ Below w2.heap.size w2 w4 ∧ Box w2.heap.size D D.gen (.slice (some ⟨gm, 0, none⟩) (D.m + 1) cm) w4) := ⟨HG.out.1.below hb4 (fun k hk => (HG.out.1.lt k hk).2), bel_up HG.out.2.1 hb4, HG.out.2.2.below hb4 hsz⟩
      have hs4 := hb4.size
      clear hb4 HG
      by_cases hbig : D.q ^ p ≤ 4096
      · have HV : Hid (D.q ^ ((dgn (zc n z) n - 1) / 2) ≤ 4096) := by
          show _ ≤ _
          rw [HN.out.2.1, Nat.add_sub_cancel, ← HPP.out]; exact hbig
        rw [decide_eq_true hbig]
        clear hbig
        obtain ⟨k0, k1, k2, k3, k4⟩ := HG4.out.2.2
        have HFa : Hid (Calls Try.prog 90 #[.agg #[.int .i64 D.q, .int .i64 D.p, .int .i64 D.m, .int .i64 D.gen, .slice (some ⟨gm, 0, none⟩) (D.m + 1) cm], .slice ao n ca] w4 fun e w' => ∃ v L, e = .returned v ∧ LLs w4.heap.size v L w' ∧ FacSpec D n z 0 L ∧ Below w4.heap.size w4 w') := by
          have hA := HA.out.2.below (bel_up HM.out.2 HG4.out.2.1)
          refine (rfactors_any HA.out.1 D.gen gm cm hn128 (zc_el (fld HA.out.1) HN.out.1) (zc_bd _ _) HN.out.2.1 (zc_sl HN.out.1 hA.sl) hA.lt hA.le hA.cap hA.nil (HM.out.1.below HG4.out.2.1)).mono ?_
          rintro e w' ⟨v, L, rfl, hls, hpre, hb⟩
          exact ⟨v, L, rfl, hls, Or.inl ⟨HN.out.1, HN.out.2.2, HV.out, rfl, hpre⟩, hb⟩
        go_wp2_with fail
        refine HFa.out.mono ?_
        rintro e w5 ⟨vp, L0, rfl, hls, hsp, hb5⟩
        have HX : Hid (Below w.heap.size w w5 ∧ OwnI (w2.heap.size + 1) vl (D.rootsL (zc n z) n D.q) w5 ∧ LLs w4.heap.size vp L0 w5 ∧ FacSpec D n z 0 L0) := ⟨bel_up HM.out.2 (bel_up HG4.out.2.1 hb5), HG4.out.1.below hb5 (fun k hk => (HG4.out.1.lt k hk).2), hls, hsp⟩
        clear hls hsp hb5 HFa k0 k1 k2 k3 k4
        go_wp2_with fail
        refine (roots_any HA.out.1 (HA.out.2.below HX.out.1)).mono ?_
        rintro r wa ⟨hba, hra⟩
        rcases hra with ⟨_, _, va, rfl, hoa⟩ | ⟨_, h, _⟩ | ⟨h, _⟩
        rotate_left
        · exact absurd h HN.out.2.2
        · exact absurd HN.out.1 h
        have HBa : Hid (Below w.heap.size w wa ∧ OwnI w5.heap.size va (D.rootsL (zc n z) n D.q) wa ∧ Below w5.heap.size w5 wa) := ⟨bel_up HX.out.1 hba, hoa, hba⟩
        clear hba hoa
        go_wp2_with fail
        refine (factors_any HA.out.1 (HA.out.2.below HBa.out.1)).mono ?_
        rintro r wb ⟨vb, er, L, rfl, hbb, hls, hsp⟩
        obtain ⟨lo, lc, rfl⟩ := hls.slice
        have HBb : Hid (Below w.heap.size w wb ∧ Below wa.heap.size wa wb ∧ LLs wa.heap.size (.slice lo L.length lc) L wb ∧ FacSpec D n z er L) := ⟨bel_up HBa.out.1 hbb, hbb, hls, hsp⟩
        clear hbb hls hsp
        go_wp2_with fail
        refine (irred_any HA.out.1 (HA.out.2.below HBb.out.1)).mono ?_
        rintro r wc ⟨er2, L2, rfl, hbc, hsp2⟩
        have hun := facSpec_uniq (fld HA.out.1) HBb.out.2.2.2 hsp2
        obtain ⟨e1, e2⟩ := hun
        subst e1 e2
        have HBc : Hid (Below w.heap.size w wc ∧ Below wb.heap.size wb wc ∧ Below w5.heap.size w5 wc ∧ SliceI va (D.rootsL (zc n z) n D.q) wc) := ⟨bel_up HBb.out.1 hbc, hbc, bel_up HBa.out.2.2 (bel_up HBb.out.2.1 hbc), ((HBa.out.2.1.below (bel_up HBb.out.2.1 hbc) (fun k hk => (HBa.out.2.1.lt k hk).2)).slice (by have := rootsL_len D (zc n z) n D.q; omega))⟩
        clear hbc hsp2
        have hun := facSpec_uniq (fld HA.out.1) HBb.out.2.2.2 HX.out.2.2.2
        obtain ⟨e1, e2⟩ := hun
        subst e1 e2
        have HLL : Hid (LLs wa.heap.size (.slice lo L.length lc) L wc ∧ LLs w4.heap.size vp L wc ∧ SliceI vl (D.rootsL (zc n z) n D.q) wc ∧ L.length ≤ 1000000 ∧ ∀ p ∈ L, p.1 + 1 ≤ 1000000) :=
          ⟨HBb.out.2.2.1.below HBc.out.2.1 (Nat.le_refl _), HX.out.2.2.1.below HBc.out.2.2.1 (Nat.le_refl _), (HX.out.2.1.below HBc.out.2.2.1 (fun k hk => (HX.out.2.1.lt k hk).2)).slice (by have := rootsL_len D (zc n z) n D.q; omega), facSpec_len HA.out.1 HBb.out.2.2.2 hn128⟩
        obtain ⟨po, pc, rfl⟩ := HX.out.2.2.1.slice
        have HLI : Hid (∀ k, Calls Try.prog 45 #[va, .int .i64 0, vl, .int .i64 0] (wc.drewN k) fun r w' => r = .returned (.bool true) ∧ ∃ m, w' = wc.drewN m) := fun k => by
          refine (list_same (w := wc.drewN k) (HBc.out.2.2.2.drewN k) (HLL.out.2.2.1.drewN k)).mono ?_
          rintro r w' ⟨rfl, m, rfl⟩
          exact ⟨rfl, _, World.drewN_drewN _ _ _⟩
        have HLS : Hid (∀ k, Calls Try.prog 94 #[.slice lo L.length lc, .int .i64 0, .slice po L.length pc, .int .i64 0] (wc.drewN k) fun r w' => r = .returned (.bool true) ∧ ∃ m, w' = wc.drewN m) := fun k => by
          refine (lists_same (w := wc.drewN k) (HLL.out.1.below (below_drewN2 (Below.refl _ _) k) (Nat.le_refl _)) (HLL.out.2.1.below (below_drewN2 (Below.refl _ _) k) (Nat.le_refl _)) HLL.out.2.2.2.1 HLL.out.2.2.2.2).mono ?_
          rintro r w' ⟨rfl, m, rfl⟩
          exact ⟨rfl, _, World.drewN_drewN _ _ _⟩
        go_wp2_with fail
        refine (HLI.out 0).mono ?_
        rintro r wd ⟨rfl, m1, rfl⟩
        go_wp2_with fail
        refine (HLS.out m1).mono ?_
        rintro r wd ⟨rfl, m2, rfl⟩
        by_cases h1 : L.length = 1
        · have hz5 : ((L.length : Int) == 1) = true := by rw [h1]; rfl
          have hz6 : decide (L.length = 1) = true := decide_eq_true h1
          rw [hz6]
          clear h1
          go_wp2
          go_ret
          exact ⟨by first | rfl | simp, below_drewN2 HBc.out.1 _⟩
        · have hz5 : ((L.length : Int) == 1) = false := by rw [beq_eq_false_iff_ne]; omega
          have hz6 : decide (L.length = 1) = false := decide_eq_false h1
          rw [hz6]
          clear h1
          go_wp2
          go_ret
          exact ⟨by first | rfl | simp, below_drewN2 HBc.out.1 _⟩
      · have HV : Hid (4096 < D.q ^ ((dgn (zc n z) n - 1) / 2)) := by
          show _ < _
          rw [HN.out.2.1, Nat.add_sub_cancel, ← HPP.out]; omega
        rw [decide_eq_false hbig]
        clear hbig
        have HX : Hid (Below w.heap.size w w4 ∧ OwnI (w2.heap.size + 1) vl (D.rootsL (zc n z) n D.q) w4 ∧ FacSpec D n z 4 []) := ⟨bel_up HM.out.2 HG4.out.2.1, HG4.out.1, Or.inr (Or.inl ⟨HN.out.1, HN.out.2.2, HV.out, rfl, rfl⟩)⟩
        go_wp2_with fail
        refine (roots_any HA.out.1 (HA.out.2.below HX.out.1)).mono ?_
        rintro r wa ⟨hba, hra⟩
        rcases hra with ⟨_, _, va, rfl, hoa⟩ | ⟨_, h, _⟩ | ⟨h, _⟩
        rotate_left
        · exact absurd h HN.out.2.2
        · exact absurd HN.out.1 h
        have HBa : Hid (Below w.heap.size w wa ∧ OwnI w4.heap.size va (D.rootsL (zc n z) n D.q) wa ∧ Below w4.heap.size w4 wa) := ⟨bel_up HX.out.1 hba, hoa, hba⟩
        clear hba hoa
        go_wp2_with fail
        refine (factors_any HA.out.1 (HA.out.2.below HBa.out.1)).mono ?_
        rintro r wb ⟨vb, er, L, rfl, hbb, hls, hsp⟩
        obtain ⟨lo, lc, rfl⟩ := hls.slice
        have HBb : Hid (Below w.heap.size w wb ∧ Below wa.heap.size wa wb ∧ LLs wa.heap.size (.slice lo L.length lc) L wb ∧ FacSpec D n z er L) := ⟨bel_up HBa.out.1 hbb, hbb, hls, hsp⟩
        clear hbb hls hsp
        go_wp2_with fail
        refine (irred_any HA.out.1 (HA.out.2.below HBb.out.1)).mono ?_
        rintro r wc ⟨er2, L2, rfl, hbc, hsp2⟩
        have hun := facSpec_uniq (fld HA.out.1) HBb.out.2.2.2 hsp2
        obtain ⟨e1, e2⟩ := hun
        subst e1 e2
        have HBc : Hid (Below w.heap.size w wc ∧ Below wb.heap.size wb wc ∧ Below w4.heap.size w4 wc ∧ SliceI va (D.rootsL (zc n z) n D.q) wc) := ⟨bel_up HBb.out.1 hbc, hbc, bel_up HBa.out.2.2 (bel_up HBb.out.2.1 hbc), ((HBa.out.2.1.below (bel_up HBb.out.2.1 hbc) (fun k hk => (HBa.out.2.1.lt k hk).2)).slice (by have := rootsL_len D (zc n z) n D.q; omega))⟩
        clear hbc hsp2
        have hun := facSpec_uniq (fld HA.out.1) HBb.out.2.2.2 HX.out.2.2
        obtain ⟨e1, e2⟩ := hun
        subst e1 e2
        have HLL : Hid (SliceI vl (D.rootsL (zc n z) n D.q) wc) := (HX.out.2.1.below HBc.out.2.2.1 (fun k hk => (HX.out.2.1.lt k hk).2)).slice (by have := rootsL_len D (zc n z) n D.q; omega)
        go_wp2_with fail
        refine (list_same HBc.out.2.2.2 HLL.out).mono ?_
        rintro r wd ⟨rfl, m1, rfl⟩
        go_wp2_with (go_at_call 94; refine (lists_err2 4 (by omega) _ _ _ _).mono ?_; rintro r wd ⟨rfl, hw⟩; have hw := hw.symm; subst hw)
        go_ret
        exact ⟨by first | rfl | simp, below_drewN2 HBc.out.1 _⟩
end Go.Proofs.Ytmnkablobhdbjaa
