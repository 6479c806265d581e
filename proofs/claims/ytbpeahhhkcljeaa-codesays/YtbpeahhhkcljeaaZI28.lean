/- CodeSays: the words of a code that may be. -/
import Derived.Test.YtbpeahhhkcljeaaZI25
namespace Go.Proofs.Ytbpeahhhkcljeaa
open Go.RowKit Go.Sort

/-- The three codes' variables and the field's. -/
def CW (b : Nat) (D : FD) (n : Nat) (vc vo vd : Value) (f gm cm : Nat) (wx : World) : Prop := CB b D.q n vc wx ∧ CB (b + 1) D.q n vo wx ∧ CB (b + 1 + 1) D.q n vd wx ∧ Box f D D.gen (.slice (some ⟨gm, 0, none⟩) (D.m + 1) cm) wx ∧ f < wx.heap.size
theorem CW.keep {b : Nat} {D : FD} {n : Nat} {vc vo vd : Value} {f gm cm : Nat} {wx wy : World} (h : CW b D n vc vo vd f gm cm wx) (hb : Below wx.heap.size wx wy) : CW b D n vc vo vd f gm cm wy :=
  ⟨h.1.keep hb, h.2.1.keep hb, h.2.2.1.keep hb, h.2.2.2.1.below hb h.2.2.2.2, Nat.lt_of_lt_of_le h.2.2.2.2 hb.size⟩
theorem sliceI_slz {ao : Option Addr} {k ca : Nat} {z : Nat → Int} {w : World} (h : SliceI (.slice ao k ca) (zl k z) w) : SlZ ao k z w := fun j hj => by
  rcases h with ⟨e, _⟩ | ⟨_, _, b, off, cap, ev, hc⟩
  · have := congrArg List.length e
    rw [zl_len] at this
    have : k = 0 := this
    omega
  · rw [zl_len] at ev
    cases ev
    refine ⟨b, off, rfl, ?_⟩
    rw [hc j (by rw [zl_len]; exact hj), zl_getD _ _ _ hj]
theorem sliceI_form {v : Value} {k : Nat} {z : Nat → Int} {w : World} (h : SliceI v (zl k z) w) : ∃ ao ca, v = .slice ao k ca := by
  rcases h with ⟨e, ao, ca, rfl⟩ | ⟨_, _, b, off, ca, rfl, _⟩
  · have := congrArg List.length e
    rw [zl_len] at this
    have : k = 0 := this
    subst this
    exact ⟨ao, ca, rfl⟩
  · rw [zl_len]; exact ⟨_, _, rfl⟩
theorem allHas_no {D : FD} {z : Nat → Int} {n : Nat} : D.allHas z n = !anyB (fun j => !D.has (z j)) n := by
  cases h : anyB (fun j => !D.has (z j)) n with
  | true =>
    cases h2 : D.allHas z n with
    | false => rfl
    | true =>
      have h3 := anyB_no (p := fun j => !D.has (z j)) n (fun j hj => by show (!D.has (z j)) = false; rw [allHas_iff.1 h2 j hj]; rfl)
      rw [h] at h3; cases h3
  | false =>
    refine allHas_iff.2 (fun j hj => ?_)
    cases h2 : D.has (z j) with
    | true => rfl
    | false =>
      have h3 := anyB_yes (p := fun j => !D.has (z j)) (i := j) (by show (!D.has (z j)) = true; rw [h2]; rfl) n hj
      rw [h] at h3; cases h3

set_option maxHeartbeats 40000000 in
set_option maxRecDepth 100000 in
theorem codeWord_ok {D : FD} (hD : D ∈ fieldsL) {ao yo zo oo dd : Option Addr} {m n ca my cy mz cz k oc kd dc : Nat} {A : Nat → Option Addr} {N C : Nat → Nat} {Z : Nat → Nat → Int} {R Rd : Nat → Nat → Nat} {y z : Nat → Int} {w : World} (ha : CdZ D ao m n A N C Z w) (hY : Arg yo my cy y w) (hZ : Arg zo mz cz z w) (hyz : my + mz ≤ 200)
    (hR : Red D n m (mzc N Z) k R) (hRd : Dul D n m (mzc N Z) kd Rd) (hO : RL (.slice oo k oc) k n R w) (hDd : RL (.slice dd kd dc) kd n Rd w)
    (hC : ∀ wx, Below w.heap.size w wx → Calls Try.prog 26 #[.agg #[.int .i64 D.q, .int .i64 (n : Nat), .slice ao m ca]] wx fun x w' => x = .returned (.int .i64 0) ∧ Below wx.heap.size wx w') :
    Calls Try.prog 32 #[.agg #[.int .i64 D.q, .int .i64 (n : Nat), .slice ao m ca], .agg #[.int .i64 D.q, .int .i64 (n : Nat), .slice oo k oc], .agg #[.int .i64 D.q, .int .i64 (n : Nat), .slice dd kd dc], .slice yo my cy, .slice zo mz cz, .int .i64 0] w fun r w' => r = .returned (.bool true) ∧ Below w.heap.size w w' := by
  obtain ⟨w0, hw0⟩ : ∃ w0, w0 = ((w.alloc (.cells #[.int .i64 D.q, .int .i64 (n : Nat), .slice ao m ca] 43)).alloc (.cells #[.int .i64 D.q, .int .i64 (n : Nat), .slice oo k oc] 43)).alloc (.cells #[.int .i64 D.q, .int .i64 (n : Nat), .slice dd kd dc] 43) := ⟨_, rfl⟩
  have HW : Hid (Below w.heap.size w w0 ∧ CB w.heap.size D.q n (.slice ao m ca) w0 ∧ CB (w.heap.size + 1) D.q n (.slice oo k oc) w0 ∧ CB (w.heap.size + 1 + 1) D.q n (.slice dd kd dc) w0) := by
    obtain ⟨h1, h2, h3, h4, h5⟩ := three_codes D.q n D.q n D.q n (.slice ao m ca) (.slice oo k oc) (.slice dd kd dc) w w0 hw0
    exact ⟨h1, h2, h3, h4⟩
  have HA : Hid (D ∈ fieldsL ∧ CdZ D ao m n A N C Z w ∧ Arg yo my cy y w ∧ Arg zo mz cz z w ∧ Red D n m (mzc N Z) k R ∧ Dul D n m (mzc N Z) kd Rd ∧ RL (.slice oo k oc) k n R w ∧ RL (.slice dd kd dc) kd n Rd w) := ⟨hD, ha, hY, hZ, hR, hRd, hO, hDd⟩
  have HC : Hid _ := hC
  have hn1 := ha.n1
  have hn := ha.n64
  have hkn := hR.le
  have hkd := hRd.le
  clear hD ha hY hZ hR hRd hO hDd hC
  go_enter Try.func32, Try.ntmps32
  go_wp2_with fail
  rw [← hw0]
  clear hw0
  refine (rfield_sl HA.out.1 w0).mono ?_
  rintro x w1 ⟨gm, cm, rfl, hmod, hb1⟩
  unfold rf
  obtain ⟨wa, hwa⟩ : ∃ wa, wa = w1.alloc (.cells #[.int .i64 D.q, .int .i64 D.p, .int .i64 D.m, .int .i64 D.gen, .slice (some ⟨gm, 0, none⟩) (D.m + 1) cm] 28) := ⟨_, rfl⟩
  have HB : Hid (Below w.heap.size w wa ∧ CW w.heap.size D n (.slice ao m ca) (.slice oo k oc) (.slice dd kd dc) w1.heap.size gm cm wa ∧ ModAt D (.slice (some ⟨gm, 0, none⟩) (D.m + 1) cm) D.md wa) := by
    have hb : Below w1.heap.size w1 wa := by rw [hwa]; exact (Below.refl _ _).alloc (Nat.le_refl _) _
    have hbb := bel_up' hb1 hb
    exact ⟨bel_up' HW.out.1 hbb, ⟨HW.out.2.1.keep hbb, HW.out.2.2.1.keep hbb, HW.out.2.2.2.keep hbb, by rw [hwa]; exact box_new D D.gen _ w1, by rw [hwa]; simp⟩, hmod.below hb⟩
  obtain ⟨p0, p1, p2⟩ := HW.out.2.1.keep hb1
  obtain ⟨q0, q1, q2⟩ := HW.out.2.2.1.keep hb1
  have hlt0 : w.heap.size < w1.heap.size := cell_lt p0
  have hlt1 : w.heap.size + 1 < w1.heap.size := cell_lt q0
  clear hb1 hmod
  by_cases hmk : my = k
  · have hkm := hmk.symm
    subst hkm
    have hz : (((k : Nat) : Int) != ((k : Nat) : Int)) = false := by simp
    go_wp2_with fail
    rw [← hwa]
    clear hwa p0 p1 p2 q0 q1 q2 hlt0 hlt1
    refine (relements_any D.gen _ (by omega) (HA.out.2.2.1.below HB.out.1).sl).mono ?_
    rintro x we ⟨rfl, hbe⟩
    have HV : Hid (Below w.heap.size w we ∧ CW w.heap.size D n (.slice ao m ca) (.slice oo k oc) (.slice dd kd dc) w1.heap.size gm cm we ∧ ModAt D (.slice (some ⟨gm, 0, none⟩) (D.m + 1) cm) D.md we) := ⟨bel_up' HB.out.1 hbe, HB.out.2.1.keep hbe, HB.out.2.2.below hbe⟩
    clear hbe
    obtain ⟨⟨p0, p1, p2⟩, ⟨q0, q1, q2⟩, _, hbx, _⟩ := HV.out.2.1
    obtain ⟨b0, b1, b2, b3, b4⟩ := hbx
    by_cases hab : D.allHas y k = true
    · have HN0 : Hid (D.nchk k y k = 0) := by
        show _ = _
        unfold FD.nchk
        rw [allHas_no] at hab
        rw [if_neg (by omega), if_neg (by cases h : anyB (fun j => !D.has (y j)) k with | true => rw [h] at hab; cases hab | false => simp)]
      rw [hab]
      clear hab
      go_wp2_with fail
      refine (rencoded_any HA.out.1 D.gen gm cm hn (by omega) HA.out.2.2.2.2.1.rows.1 (fun i hi => zc_lt HN0.out hi) (HA.out.2.2.2.2.2.2.1.below HV.out.1) (has_sl (nchk_ok HN0.out).2 (HA.out.2.2.1.below HV.out.1).sl) (HA.out.2.2.1.below HV.out.1).lt HV.out.2.2).mono ?_
      rintro x wf ⟨rfl, hrow, hbf⟩
      obtain ⟨G, hG⟩ : ∃ G, G = we.heap.size + 1 + 1 := ⟨_, rfl⟩
      rw [← hG] at hrow ⊢
      have HF2 : Hid (Below w.heap.size w wf ∧ CW w.heap.size D n (.slice ao m ca) (.slice oo k oc) (.slice dd kd dc) w1.heap.size gm cm wf ∧ ModAt D (.slice (some ⟨gm, 0, none⟩) (D.m + 1) cm) D.md wf ∧ Row G n (enw D R (zc k y) k) wf) := ⟨bel_up' HV.out.1 hbf, HV.out.2.1.keep hbf, HV.out.2.2.below hbf, hrow⟩
      clear hbf hrow hG p0 p1 p2 q0 q1 q2 b0 b1 b2 b3 b4
      obtain ⟨⟨p0, p1, p2⟩, _⟩ := HF2.out.2.1
      go_wp2_with fail
      refine (cEncode_ok HA.out.1 (HA.out.2.1.below HF2.out.1) (HA.out.2.2.1.below HF2.out.1) HA.out.2.2.2.2.1 HN0.out (fun wx hx => HC.out _ (bel_up' HF2.out.1 hx))).mono ?_
      rintro x w2 ⟨⟨gr, c, rfl, hrow2, hg, hc, _⟩, hb2⟩
      have H1 : Hid (Below w.heap.size w w2 ∧ CW w.heap.size D n (.slice ao m ca) (.slice oo k oc) (.slice dd kd dc) w1.heap.size gm cm w2 ∧ ModAt D (.slice (some ⟨gm, 0, none⟩) (D.m + 1) cm) D.md w2 ∧ Row G n (enw D R (zc k y) k) w2 ∧ Row gr n (enw D R (zc k y) k) w2) := ⟨bel_up' HF2.out.1 hb2, HF2.out.2.1.keep hb2, HF2.out.2.2.1.below hb2, HF2.out.2.2.2.below hb2 HF2.out.2.2.2.lt, hrow2⟩
      clear hb2 hrow2 hg hc p0 p1 p2
      go_wp2_with fail
      refine (list_gen (Or.inr ⟨rfl, _, sl_sliceI (H1.out.2.2.2.2.sl (Nat.le_refl _)) (by omega), sl_sliceI (H1.out.2.2.2.1.sl (Nat.le_refl _)) (by omega)⟩)).mono ?_
      rintro x w' ⟨rfl, dn, hw⟩
      have H2 : Hid (Below w.heap.size w w' ∧ CW w.heap.size D n (.slice ao m ca) (.slice oo k oc) (.slice dd kd dc) w1.heap.size gm cm w' ∧ ModAt D (.slice (some ⟨gm, 0, none⟩) (D.m + 1) cm) D.md w') := by
        have hb : Below w2.heap.size w2 w' := by rw [hw]; exact below_drewN2 (Below.refl _ _) dn
        exact ⟨bel_up' H1.out.1 hb, H1.out.2.1.keep hb, H1.out.2.2.1.below hb⟩
      clear hw
      obtain ⟨⟨p0, p1, p2⟩, _, ⟨s0, s1, s2⟩, _⟩ := H2.out.2.1
      go_wp2_with fail
      refine (wordMay_any HA.out.1 n (HA.out.2.2.2.1.below H2.out.1)).mono ?_
      rintro x wm ⟨rfl, hbm⟩
      have HM : Hid (Below w.heap.size w wm ∧ CW w.heap.size D n (.slice ao m ca) (.slice oo k oc) (.slice dd kd dc) w1.heap.size gm cm wm ∧ ModAt D (.slice (some ⟨gm, 0, none⟩) (D.m + 1) cm) D.md wm) := ⟨bel_up' H2.out.1 hbm, H2.out.2.1.keep hbm, H2.out.2.2.below hbm⟩
      clear hbm p0 p1 p2 s0 s1 s2
      by_cases hs : D.nchk mz z n = 0
      · have hmz : mz = n := by have := (nchk_ok hs).1; omega
        have HNs : Hid (D.nchk mz z n = 0) := hs
        rw [hs]
        clear hs
        subst hmz
        go_wp2_with fail
        obtain ⟨t, ht⟩ : ∃ t, t = ct (fun i => !decide (((dot D (Rd i) (zc mz z) mz : Nat) : Int) = 0)) kd := ⟨_, rfl⟩
        obtain ⟨b, hb⟩ : ∃ b, b = decide (t = 0) := ⟨_, rfl⟩
        have hzt : (((t : Nat) : Int) == 0) = b := by
          rw [hb]
          by_cases h : t = 0
          · rw [h]; rfl
          · rw [decide_eq_false h, beq_eq_false_iff_ne]; omega
        have hbb : (b == b) = true := by cases b <;> rfl
        have HT : Hid (t = ct (fun i => !decide (((dot D (Rd i) (zc mz z) mz : Nat) : Int) = 0)) kd ∧ b = decide (t = 0)) := ⟨ht, hb⟩
        clear ht hb
        have HS : Hid (∀ wx, Below w.heap.size w wx → Calls Try.prog 72 #[.agg #[.int .i64 D.q, .int .i64 (mz : Nat), .slice ao m ca], .slice zo mz cz] wx fun x w' => LstP wx.heap.size kd (fun i => dot D (Rd i) (zc mz z) mz) x w' ∧ Below wx.heap.size wx w') := fun wx hx =>
          cSyn_ok HA.out.1 (HA.out.2.1.below hx) (HA.out.2.2.2.1.below hx) HA.out.2.2.2.2.2.1 HNs.out (fun wy hy => HC.out _ (bel_up' hx hy))
        have HH : Hid (∀ wx, Below w.heap.size w wx → Calls Try.prog 43 #[.agg #[.int .i64 D.q, .int .i64 (mz : Nat), .slice ao m ca], .slice zo mz cz] wx fun x w' => x = .returned (.tuple #[.bool b, .int .i64 0]) ∧ Below wx.heap.size wx w') := fun wx hx => by
          rw [HT.out.2, HT.out.1]
          exact cHas_ok D.q mz (by omega) (fun wy hy => HS.out _ (bel_up' hx hy))
        go_loopw [19, 20] (fun vs vi wr => ∃ i : Nat, i ≤ kd ∧ vi = .int .i64 i ∧ Hid (OwnI wm.heap.size vs (zl i fun j => ((dot D (Rd j) (zc mz z) mz : Nat) : Int)) wr ∧ Below wm.heap.size wm wr)) (fun _ vi _ => kd - (intOf vi).toNat)
        case atStart => exact ⟨0, by omega, rfl, OwnI.nil _ _, Below.refl _ _⟩
        case round =>
          obtain ⟨i, hi, rfl, HG⟩ := hrel
          rename World => wr
          have hcw := HM.out.2.1.keep HG.out.2
          obtain ⟨⟨p0, p1, p2⟩, _, ⟨s0, s1, s2⟩, hbx, hfl⟩ := hcw
          by_cases hlt : i < kd
          · have hib : (i : Int) < (kd : Int) := by omega
            have hib0 : (0 : Int) ≤ (i : Int) := by omega
            have hbw : Below w.heap.size w wr := bel_up' HM.out.1 HG.out.2
            obtain ⟨ro', rc', ev, hrl⟩ := HA.out.2.2.2.2.2.2.2.below hbw
            cases ev
            obtain ⟨bR, oR, xr, cx, hro, hcr, hsr⟩ := hrl i hlt
            subst hro
            obtain ⟨u, hu⟩ : ∃ u, u = dot D (Rd i) (zc mz z) mz := ⟨_, rfl⟩
            have hArg := HA.out.2.2.2.1.below hbw
            have HC1 : Hid (∀ d os, Calls Try.prog 44 #[.agg #[.int .i64 D.q, .int .i64 D.p, .int .i64 D.m, .int .i64 D.gen, .slice (some ⟨gm, 0, none⟩) (D.m + 1) cm], .slice xr mz cx, .slice zo mz cz] (grow (redrawn wr d) os) fun e w'' => e = .returned (.int .i64 (u : Nat)) ∧ ∃ p : Regrown, w'' = grow (redrawn wr p.d) p.os) := fun d os => by
              rw [hu]
              have hg := below_regrown wr d os
              have hx := rl_lt hsr hn1
              exact Calls.regrown_of (rdot_any HA.out.1 D.gen gm cm (by omega) (fun j _ => HA.out.2.2.2.2.2.1.rows.1 i hlt j) (fun j hj => zc_lt HNs.out hj) (hsr.below hg hx) (fun a ha => Nat.lt_of_lt_of_le (hx a ha) hg.size) ((has_sl (nchk_ok HNs.out).2 hArg.sl).below hg hArg.lt) (fun a ha => Nat.lt_of_lt_of_le (hArg.lt a ha) hg.size) ((HM.out.2.2.below HG.out.2).below hg))
            have k0 := cell_regrown hbx.c0
            have k1 := cell_regrown hbx.c1
            have k2 := cell_regrown hbx.c2
            have k3 := cell_regrown hbx.c3
            have k4 := cell_regrown hbx.c4
            have k5 := cell_regrown s2
            have k6 := cell_regrown hcr
            have HU : Hid (u = dot D (Rd i) (zc mz z) mz) := hu
            clear hu hArg hrl hsr hbw hbx hfl
            go_wp2
            refine wp_region_quiet_below (by kernel_rfl) (by kernel_rfl) ?_
            repeat (go_big_quiet_step (first | (go_at_call 44; exact HC1.out _ _)))
            refine wpQuiet_nil ?_
            intro _ hw'
            obtain ⟨⟨dr, osr⟩, hw''⟩ := hw'
            subst hw''
            obtain ⟨wd, hwd⟩ : ∃ wd, wd = grow (redrawn wr dr) osr := ⟨_, rfl⟩
            have HO : Hid (OwnI wm.heap.size u19 (zl i fun j => ((dot D (Rd j) (zc mz z) mz : Nat) : Int)) wd ∧ Below wm.heap.size wm wd) := by
              have hg := below_regrown wr dr osr
              rw [hwd]; exact ⟨HG.out.1.below hg (fun k hk => (HG.out.1.lt k hk).2), bel_up' HG.out.2 hg⟩
            rw [← hwd]
            have hsz := HO.out.2.size
            clear hwd k0 k1 k2 k3 k4 k5 k6 p0 p1 p2 s0 s1 s2 hcr
            go_wp2_with (at_builtin; refine append_int rfl _ _ rfl wm.heap.size _ (zl i fun j => ((dot D (Rd j) (zc mz z) mz : Nat) : Int)) rfl (HO.out.1.alloc _) ⟨_, 0, none⟩ 1 (u : Int) rfl (by simp) (by rw [zl_len]; omega) (by simp; omega) ?_; intro v5 w5 hown5 hgrow5)
            have HR : Hid (OwnI wm.heap.size v5 (zl (i + 1) fun j => ((dot D (Rd j) (zc mz z) mz : Nat) : Int)) w5 ∧ Below wm.heap.size wm w5) := by
              refine ⟨by rw [zl_succ, ← HU.out]; exact hown5, (HO.out.2.alloc hsz _).grown hgrow5 (by simp; omega) (fun k hk => (HO.out.1.lt k hk).1)⟩
            clear hown5 hgrow5
            go_roundw
            case rel => exact ⟨i + 1, by omega, by go_num, HR.out⟩
            case measure => simp [intOf]; omega
          · have hib : ¬ (i : Int) < (kd : Int) := by omega
            have hie : kd = i := by omega
            subst hie
            have hki := HG.out.1.ki (by rw [zl_len]; omega)
            obtain ⟨so, sc, hv⟩ := sliceI_form hki.1
            have HK : Hid (KI (.slice so kd sc) (zl kd fun j => ((dot D (Rd j) (zc mz z) mz : Nat) : Int)) wr ∧ Below w.heap.size w wr ∧ CB w.heap.size D.q mz (.slice ao m ca) wr) := ⟨by rw [← hv]; exact hki, bel_up' HM.out.1 HG.out.2, HM.out.2.1.1.keep HG.out.2⟩
            subst hv
            clear hki hbx hfl
            go_wp2_with fail
            refine (HS.out _ HK.out.2.1).mono ?_
            rintro x w3 ⟨⟨gr, c, rfl, hrow, hg, hc, _⟩, hb3⟩
            have H3 : Hid (Below w.heap.size w w3 ∧ CB w.heap.size D.q mz (.slice ao m ca) w3 ∧ KI (.slice so kd sc) (zl kd fun j => ((dot D (Rd j) (zc mz z) mz : Nat) : Int)) w3 ∧ Row gr kd (fun i => dot D (Rd i) (zc mz z) mz) w3) := ⟨bel_up' HK.out.2.1 hb3, HK.out.2.2.keep hb3, HK.out.1.below hb3, hrow⟩
            clear hb3 hrow hg hc p0 p1 p2 s0 s1 s2
            obtain ⟨p0, p1, p2⟩ := H3.out.2.1
            go_wp2_with fail
            refine (HH.out _ H3.out.1).mono ?_
            rintro x w4 ⟨rfl, hb4⟩
            have H4 : Hid (Below w.heap.size w w4 ∧ KI (.slice so kd sc) (zl kd fun j => ((dot D (Rd j) (zc mz z) mz : Nat) : Int)) w4 ∧ Row gr kd (fun i => dot D (Rd i) (zc mz z) mz) w4) := ⟨bel_up' H3.out.1 hb4, H3.out.2.2.1.below hb4, H3.out.2.2.2.below hb4 H3.out.2.2.2.lt⟩
            clear hb4 p0 p1 p2
            go_wp2_with fail
            refine (list_gen (Or.inr ⟨rfl, _, sl_sliceI (H4.out.2.2.sl (Nat.le_refl _)) (by omega), H4.out.2.1.1⟩)).mono ?_
            rintro x w' ⟨rfl, dn, hw⟩
            have H5 : Hid (Below w.heap.size w w' ∧ KI (.slice so kd sc) (zl kd fun j => ((dot D (Rd j) (zc mz z) mz : Nat) : Int)) w') := by rw [hw]; exact ⟨below_drewN2 H4.out.1 dn, H4.out.2.1.drewN dn⟩
            clear hw
            have HWt : Hid (∀ cc, Calls Try.prog 29 #[.slice so kd cc] w' fun e w'' => e = .returned (.int .i64 (t : Nat)) ∧ Below w'.heap.size w' w'') := fun cc => by
              rw [HT.out.1]
              exact rweight_any (sliceI_slz H5.out.2.1) (fun a ha => H5.out.2.2 a.block (by rw [ha]; rfl)) (by omega)
            go_wp2_with fail
            refine (HWt.out _).mono ?_
            rintro x w6 ⟨rfl, hb6⟩
            have H6 : Hid (Below w.heap.size w w6) := bel_up' H5.out.1 hb6
            clear hb6
            go_wp2
            go_ret
            exact ⟨by first | rfl | simp [go_sem], H6.out⟩
      · obtain ⟨e, he⟩ : ∃ e, e = D.nchk mz z n := ⟨_, rfl⟩
        have HE : Hid (e = D.nchk mz z n ∧ D.nchk mz z n ≠ 0) := ⟨he, hs⟩
        have hz : (e == 0) = false := by rw [beq_eq_false_iff_ne, he]; exact hs
        rw [← he]
        clear hs he
        have HS : Hid (∀ wx, Below w.heap.size w wx → Calls Try.prog 72 #[.agg #[.int .i64 D.q, .int .i64 (n : Nat), .slice ao m ca], .slice zo mz cz] wx fun x w' => x = .returned (.tuple #[.slice none 0 0, .int .i64 e]) ∧ Below wx.heap.size wx w') := fun wx hx => by
          rw [HE.out.1]
          exact cSyn_bad HA.out.1 (HA.out.2.1.below hx) (HA.out.2.2.2.1.below hx) HA.out.2.2.2.2.2.1 HE.out.2 (fun wy hy => HC.out _ (bel_up' hx hy))
        have HH : Hid (∀ wx, Below w.heap.size w wx → Calls Try.prog 43 #[.agg #[.int .i64 D.q, .int .i64 (n : Nat), .slice ao m ca], .slice zo mz cz] wx fun x w' => x = .returned (.tuple #[.bool false, .int .i64 e]) ∧ Below wx.heap.size wx w') := fun wx hx =>
          cHas_err e (by rw [HE.out.1]; exact HE.out.2) D.q n (fun wy hy => HS.out _ (bel_up' hx hy))
        obtain ⟨⟨p0, p1, p2⟩, _, ⟨s0, s1, s2⟩, _⟩ := HM.out.2.1
        go_wp2_with fail
        refine wp_loop_rounds 1 ?_
        rw [rounds_succ]
        rcases Nat.eq_zero_or_pos kd with hk0 | hk0
        · subst hk0
          go_wp2_with fail
          refine (HS.out _ HM.out.1).mono ?_
          rintro x w3 ⟨rfl, hb3⟩
          have H3 : Hid (Below w.heap.size w w3 ∧ CB w.heap.size D.q n (.slice ao m ca) w3) := ⟨bel_up' HM.out.1 hb3, HM.out.2.1.1.keep hb3⟩
          clear hb3 p0 p1 p2 s0 s1 s2
          obtain ⟨p0, p1, p2⟩ := H3.out.2
          go_wp2_with fail
          refine (HH.out _ H3.out.1).mono ?_
          rintro x w4 ⟨rfl, hb4⟩
          have H4 : Hid (Below w.heap.size w w4) := bel_up' H3.out.1 hb4
          clear hb4 p0 p1 p2
          go_wp2_with fail
          refine (list_err2 e (by rw [HE.out.1]; exact HE.out.2) none 0 (.slice none 0 0) w4).mono ?_
          rintro x w' ⟨rfl, hw⟩
          have hw := hw.symm
          subst hw
          have hz2 : (e == e) = true := by simp
          go_wp2
          go_ret
          exact ⟨by first | rfl | simp [go_sem], H4.out⟩
        · have hkb : (0 : Int) < (kd : Int) := by omega
          go_wp2_with fail
          refine (HS.out _ HM.out.1).mono ?_
          rintro x w3 ⟨rfl, hb3⟩
          have H3 : Hid (Below w.heap.size w w3 ∧ CB w.heap.size D.q n (.slice ao m ca) w3) := ⟨bel_up' HM.out.1 hb3, HM.out.2.1.1.keep hb3⟩
          clear hb3 p0 p1 p2 s0 s1 s2
          obtain ⟨p0, p1, p2⟩ := H3.out.2
          go_wp2_with fail
          refine (HH.out _ H3.out.1).mono ?_
          rintro x w4 ⟨rfl, hb4⟩
          have H4 : Hid (Below w.heap.size w w4) := bel_up' H3.out.1 hb4
          clear hb4 p0 p1 p2
          go_wp2_with fail
          refine (list_err2 e (by rw [HE.out.1]; exact HE.out.2) none 0 (.slice none 0 0) w4).mono ?_
          rintro x w' ⟨rfl, hw⟩
          have hw := hw.symm
          subst hw
          have hz2 : (e == e) = true := by simp
          go_wp2
          go_ret
          exact ⟨by first | rfl | simp [go_sem], H4.out⟩
    · have HN2 : Hid (D.nchk k y k = 2) := by
        show _ = _
        unfold FD.nchk
        rw [allHas_no] at hab
        rw [if_neg (by omega), if_pos (by cases h : anyB (fun j => !D.has (y j)) k with | true => rfl | false => rw [h] at hab; exact absurd rfl hab)]
      have hab' : D.allHas y k = false := by cases h : D.allHas y k with | true => exact absurd h hab | false => rfl
      rw [hab']
      clear hab hab'
      go_wp2_with fail
      refine (cEncode_bad HA.out.1 (HA.out.2.1.below HV.out.1) (HA.out.2.2.1.below HV.out.1) HA.out.2.2.2.2.1 (by rw [HN2.out]; omega) (fun wx hx => HC.out _ (bel_up' HV.out.1 hx))).mono ?_
      rintro x w2 ⟨rfl, hb2⟩
      rw [HN2.out]
      have H2 : Hid (Below w.heap.size w w2 ∧ CW w.heap.size D n (.slice ao m ca) (.slice oo k oc) (.slice dd kd dc) w1.heap.size gm cm w2 ∧ ModAt D (.slice (some ⟨gm, 0, none⟩) (D.m + 1) cm) D.md w2) := ⟨bel_up' HV.out.1 hb2, HV.out.2.1.keep hb2, HV.out.2.2.below hb2⟩
      clear hb2 p0 p1 p2 q0 q1 q2 b0 b1 b2 b3 b4
      go_wp2_with fail
      refine (list_err2 2 (by omega) none 0 (.slice none 0 0) w2).mono ?_
      rintro x w' ⟨rfl, hw⟩
      have hw := hw.symm
      subst hw
      obtain ⟨⟨p0, p1, p2⟩, _, ⟨s0, s1, s2⟩, _⟩ := H2.out.2.1
      go_wp2_with fail
      refine (wordMay_any HA.out.1 n (HA.out.2.2.2.1.below H2.out.1)).mono ?_
      rintro x wm ⟨rfl, hbm⟩
      have HM : Hid (Below w.heap.size w wm ∧ CW w.heap.size D n (.slice ao m ca) (.slice oo k oc) (.slice dd kd dc) w1.heap.size gm cm wm ∧ ModAt D (.slice (some ⟨gm, 0, none⟩) (D.m + 1) cm) D.md wm) := ⟨bel_up' H2.out.1 hbm, H2.out.2.1.keep hbm, H2.out.2.2.below hbm⟩
      clear hbm p0 p1 p2 s0 s1 s2
      by_cases hs : D.nchk mz z n = 0
      · have hmz : mz = n := by have := (nchk_ok hs).1; omega
        have HNs : Hid (D.nchk mz z n = 0) := hs
        rw [hs]
        clear hs
        subst hmz
        go_wp2_with fail
        obtain ⟨t, ht⟩ : ∃ t, t = ct (fun i => !decide (((dot D (Rd i) (zc mz z) mz : Nat) : Int) = 0)) kd := ⟨_, rfl⟩
        obtain ⟨b, hb⟩ : ∃ b, b = decide (t = 0) := ⟨_, rfl⟩
        have hzt : (((t : Nat) : Int) == 0) = b := by
          rw [hb]
          by_cases h : t = 0
          · rw [h]; rfl
          · rw [decide_eq_false h, beq_eq_false_iff_ne]; omega
        have hbb : (b == b) = true := by cases b <;> rfl
        have HT : Hid (t = ct (fun i => !decide (((dot D (Rd i) (zc mz z) mz : Nat) : Int) = 0)) kd ∧ b = decide (t = 0)) := ⟨ht, hb⟩
        clear ht hb
        have HS : Hid (∀ wx, Below w.heap.size w wx → Calls Try.prog 72 #[.agg #[.int .i64 D.q, .int .i64 (mz : Nat), .slice ao m ca], .slice zo mz cz] wx fun x w' => LstP wx.heap.size kd (fun i => dot D (Rd i) (zc mz z) mz) x w' ∧ Below wx.heap.size wx w') := fun wx hx =>
          cSyn_ok HA.out.1 (HA.out.2.1.below hx) (HA.out.2.2.2.1.below hx) HA.out.2.2.2.2.2.1 HNs.out (fun wy hy => HC.out _ (bel_up' hx hy))
        have HH : Hid (∀ wx, Below w.heap.size w wx → Calls Try.prog 43 #[.agg #[.int .i64 D.q, .int .i64 (mz : Nat), .slice ao m ca], .slice zo mz cz] wx fun x w' => x = .returned (.tuple #[.bool b, .int .i64 0]) ∧ Below wx.heap.size wx w') := fun wx hx => by
          rw [HT.out.2, HT.out.1]
          exact cHas_ok D.q mz (by omega) (fun wy hy => HS.out _ (bel_up' hx hy))
        go_loopw [19, 20] (fun vs vi wr => ∃ i : Nat, i ≤ kd ∧ vi = .int .i64 i ∧ Hid (OwnI wm.heap.size vs (zl i fun j => ((dot D (Rd j) (zc mz z) mz : Nat) : Int)) wr ∧ Below wm.heap.size wm wr)) (fun _ vi _ => kd - (intOf vi).toNat)
        case atStart => exact ⟨0, by omega, rfl, OwnI.nil _ _, Below.refl _ _⟩
        case round =>
          obtain ⟨i, hi, rfl, HG⟩ := hrel
          rename World => wr
          have hcw := HM.out.2.1.keep HG.out.2
          obtain ⟨⟨p0, p1, p2⟩, _, ⟨s0, s1, s2⟩, hbx, hfl⟩ := hcw
          by_cases hlt : i < kd
          · have hib : (i : Int) < (kd : Int) := by omega
            have hib0 : (0 : Int) ≤ (i : Int) := by omega
            have hbw : Below w.heap.size w wr := bel_up' HM.out.1 HG.out.2
            obtain ⟨ro', rc', ev, hrl⟩ := HA.out.2.2.2.2.2.2.2.below hbw
            cases ev
            obtain ⟨bR, oR, xr, cx, hro, hcr, hsr⟩ := hrl i hlt
            subst hro
            obtain ⟨u, hu⟩ : ∃ u, u = dot D (Rd i) (zc mz z) mz := ⟨_, rfl⟩
            have hArg := HA.out.2.2.2.1.below hbw
            have HC1 : Hid (∀ d os, Calls Try.prog 44 #[.agg #[.int .i64 D.q, .int .i64 D.p, .int .i64 D.m, .int .i64 D.gen, .slice (some ⟨gm, 0, none⟩) (D.m + 1) cm], .slice xr mz cx, .slice zo mz cz] (grow (redrawn wr d) os) fun e w'' => e = .returned (.int .i64 (u : Nat)) ∧ ∃ p : Regrown, w'' = grow (redrawn wr p.d) p.os) := fun d os => by
              rw [hu]
              have hg := below_regrown wr d os
              have hx := rl_lt hsr hn1
              exact Calls.regrown_of (rdot_any HA.out.1 D.gen gm cm (by omega) (fun j _ => HA.out.2.2.2.2.2.1.rows.1 i hlt j) (fun j hj => zc_lt HNs.out hj) (hsr.below hg hx) (fun a ha => Nat.lt_of_lt_of_le (hx a ha) hg.size) ((has_sl (nchk_ok HNs.out).2 hArg.sl).below hg hArg.lt) (fun a ha => Nat.lt_of_lt_of_le (hArg.lt a ha) hg.size) ((HM.out.2.2.below HG.out.2).below hg))
            have k0 := cell_regrown hbx.c0
            have k1 := cell_regrown hbx.c1
            have k2 := cell_regrown hbx.c2
            have k3 := cell_regrown hbx.c3
            have k4 := cell_regrown hbx.c4
            have k5 := cell_regrown s2
            have k6 := cell_regrown hcr
            have HU : Hid (u = dot D (Rd i) (zc mz z) mz) := hu
            clear hu hArg hrl hsr hbw hbx hfl
            go_wp2
            refine wp_region_quiet_below (by kernel_rfl) (by kernel_rfl) ?_
            repeat (go_big_quiet_step (first | (go_at_call 44; exact HC1.out _ _)))
            refine wpQuiet_nil ?_
            intro _ hw'
            obtain ⟨⟨dr, osr⟩, hw''⟩ := hw'
            subst hw''
            obtain ⟨wd, hwd⟩ : ∃ wd, wd = grow (redrawn wr dr) osr := ⟨_, rfl⟩
            have HO : Hid (OwnI wm.heap.size u19 (zl i fun j => ((dot D (Rd j) (zc mz z) mz : Nat) : Int)) wd ∧ Below wm.heap.size wm wd) := by
              have hg := below_regrown wr dr osr
              rw [hwd]; exact ⟨HG.out.1.below hg (fun k hk => (HG.out.1.lt k hk).2), bel_up' HG.out.2 hg⟩
            rw [← hwd]
            have hsz := HO.out.2.size
            clear hwd k0 k1 k2 k3 k4 k5 k6 p0 p1 p2 s0 s1 s2 hcr
            go_wp2_with (at_builtin; refine append_int rfl _ _ rfl wm.heap.size _ (zl i fun j => ((dot D (Rd j) (zc mz z) mz : Nat) : Int)) rfl (HO.out.1.alloc _) ⟨_, 0, none⟩ 1 (u : Int) rfl (by simp) (by rw [zl_len]; omega) (by simp; omega) ?_; intro v5 w5 hown5 hgrow5)
            have HR : Hid (OwnI wm.heap.size v5 (zl (i + 1) fun j => ((dot D (Rd j) (zc mz z) mz : Nat) : Int)) w5 ∧ Below wm.heap.size wm w5) := by
              refine ⟨by rw [zl_succ, ← HU.out]; exact hown5, (HO.out.2.alloc hsz _).grown hgrow5 (by simp; omega) (fun k hk => (HO.out.1.lt k hk).1)⟩
            clear hown5 hgrow5
            go_roundw
            case rel => exact ⟨i + 1, by omega, by go_num, HR.out⟩
            case measure => simp [intOf]; omega
          · have hib : ¬ (i : Int) < (kd : Int) := by omega
            have hie : kd = i := by omega
            subst hie
            have hki := HG.out.1.ki (by rw [zl_len]; omega)
            obtain ⟨so, sc, hv⟩ := sliceI_form hki.1
            have HK : Hid (KI (.slice so kd sc) (zl kd fun j => ((dot D (Rd j) (zc mz z) mz : Nat) : Int)) wr ∧ Below w.heap.size w wr ∧ CB w.heap.size D.q mz (.slice ao m ca) wr) := ⟨by rw [← hv]; exact hki, bel_up' HM.out.1 HG.out.2, HM.out.2.1.1.keep HG.out.2⟩
            subst hv
            clear hki hbx hfl
            go_wp2_with fail
            refine (HS.out _ HK.out.2.1).mono ?_
            rintro x w3 ⟨⟨gr, c, rfl, hrow, hg, hc, _⟩, hb3⟩
            have H3 : Hid (Below w.heap.size w w3 ∧ CB w.heap.size D.q mz (.slice ao m ca) w3 ∧ KI (.slice so kd sc) (zl kd fun j => ((dot D (Rd j) (zc mz z) mz : Nat) : Int)) w3 ∧ Row gr kd (fun i => dot D (Rd i) (zc mz z) mz) w3) := ⟨bel_up' HK.out.2.1 hb3, HK.out.2.2.keep hb3, HK.out.1.below hb3, hrow⟩
            clear hb3 hrow hg hc p0 p1 p2 s0 s1 s2
            obtain ⟨p0, p1, p2⟩ := H3.out.2.1
            go_wp2_with fail
            refine (HH.out _ H3.out.1).mono ?_
            rintro x w4 ⟨rfl, hb4⟩
            have H4 : Hid (Below w.heap.size w w4 ∧ KI (.slice so kd sc) (zl kd fun j => ((dot D (Rd j) (zc mz z) mz : Nat) : Int)) w4 ∧ Row gr kd (fun i => dot D (Rd i) (zc mz z) mz) w4) := ⟨bel_up' H3.out.1 hb4, H3.out.2.2.1.below hb4, H3.out.2.2.2.below hb4 H3.out.2.2.2.lt⟩
            clear hb4 p0 p1 p2
            go_wp2_with fail
            refine (list_gen (Or.inr ⟨rfl, _, sl_sliceI (H4.out.2.2.sl (Nat.le_refl _)) (by omega), H4.out.2.1.1⟩)).mono ?_
            rintro x w' ⟨rfl, dn, hw⟩
            have H5 : Hid (Below w.heap.size w w' ∧ KI (.slice so kd sc) (zl kd fun j => ((dot D (Rd j) (zc mz z) mz : Nat) : Int)) w') := by rw [hw]; exact ⟨below_drewN2 H4.out.1 dn, H4.out.2.1.drewN dn⟩
            clear hw
            have HWt : Hid (∀ cc, Calls Try.prog 29 #[.slice so kd cc] w' fun e w'' => e = .returned (.int .i64 (t : Nat)) ∧ Below w'.heap.size w' w'') := fun cc => by
              rw [HT.out.1]
              exact rweight_any (sliceI_slz H5.out.2.1) (fun a ha => H5.out.2.2 a.block (by rw [ha]; rfl)) (by omega)
            go_wp2_with fail
            refine (HWt.out _).mono ?_
            rintro x w6 ⟨rfl, hb6⟩
            have H6 : Hid (Below w.heap.size w w6) := bel_up' H5.out.1 hb6
            clear hb6
            go_wp2
            go_ret
            exact ⟨by first | rfl | simp [go_sem], H6.out⟩
      · obtain ⟨e, he⟩ : ∃ e, e = D.nchk mz z n := ⟨_, rfl⟩
        have HE : Hid (e = D.nchk mz z n ∧ D.nchk mz z n ≠ 0) := ⟨he, hs⟩
        have hz : (e == 0) = false := by rw [beq_eq_false_iff_ne, he]; exact hs
        rw [← he]
        clear hs he
        have HS : Hid (∀ wx, Below w.heap.size w wx → Calls Try.prog 72 #[.agg #[.int .i64 D.q, .int .i64 (n : Nat), .slice ao m ca], .slice zo mz cz] wx fun x w' => x = .returned (.tuple #[.slice none 0 0, .int .i64 e]) ∧ Below wx.heap.size wx w') := fun wx hx => by
          rw [HE.out.1]
          exact cSyn_bad HA.out.1 (HA.out.2.1.below hx) (HA.out.2.2.2.1.below hx) HA.out.2.2.2.2.2.1 HE.out.2 (fun wy hy => HC.out _ (bel_up' hx hy))
        have HH : Hid (∀ wx, Below w.heap.size w wx → Calls Try.prog 43 #[.agg #[.int .i64 D.q, .int .i64 (n : Nat), .slice ao m ca], .slice zo mz cz] wx fun x w' => x = .returned (.tuple #[.bool false, .int .i64 e]) ∧ Below wx.heap.size wx w') := fun wx hx =>
          cHas_err e (by rw [HE.out.1]; exact HE.out.2) D.q n (fun wy hy => HS.out _ (bel_up' hx hy))
        obtain ⟨⟨p0, p1, p2⟩, _, ⟨s0, s1, s2⟩, _⟩ := HM.out.2.1
        go_wp2_with fail
        refine wp_loop_rounds 1 ?_
        rw [rounds_succ]
        rcases Nat.eq_zero_or_pos kd with hk0 | hk0
        · subst hk0
          go_wp2_with fail
          refine (HS.out _ HM.out.1).mono ?_
          rintro x w3 ⟨rfl, hb3⟩
          have H3 : Hid (Below w.heap.size w w3 ∧ CB w.heap.size D.q n (.slice ao m ca) w3) := ⟨bel_up' HM.out.1 hb3, HM.out.2.1.1.keep hb3⟩
          clear hb3 p0 p1 p2 s0 s1 s2
          obtain ⟨p0, p1, p2⟩ := H3.out.2
          go_wp2_with fail
          refine (HH.out _ H3.out.1).mono ?_
          rintro x w4 ⟨rfl, hb4⟩
          have H4 : Hid (Below w.heap.size w w4) := bel_up' H3.out.1 hb4
          clear hb4 p0 p1 p2
          go_wp2_with fail
          refine (list_err2 e (by rw [HE.out.1]; exact HE.out.2) none 0 (.slice none 0 0) w4).mono ?_
          rintro x w' ⟨rfl, hw⟩
          have hw := hw.symm
          subst hw
          have hz2 : (e == e) = true := by simp
          go_wp2
          go_ret
          exact ⟨by first | rfl | simp [go_sem], H4.out⟩
        · have hkb : (0 : Int) < (kd : Int) := by omega
          go_wp2_with fail
          refine (HS.out _ HM.out.1).mono ?_
          rintro x w3 ⟨rfl, hb3⟩
          have H3 : Hid (Below w.heap.size w w3 ∧ CB w.heap.size D.q n (.slice ao m ca) w3) := ⟨bel_up' HM.out.1 hb3, HM.out.2.1.1.keep hb3⟩
          clear hb3 p0 p1 p2 s0 s1 s2
          obtain ⟨p0, p1, p2⟩ := H3.out.2
          go_wp2_with fail
          refine (HH.out _ H3.out.1).mono ?_
          rintro x w4 ⟨rfl, hb4⟩
          have H4 : Hid (Below w.heap.size w w4) := bel_up' H3.out.1 hb4
          clear hb4 p0 p1 p2
          go_wp2_with fail
          refine (list_err2 e (by rw [HE.out.1]; exact HE.out.2) none 0 (.slice none 0 0) w4).mono ?_
          rintro x w' ⟨rfl, hw⟩
          have hw := hw.symm
          subst hw
          have hz2 : (e == e) = true := by simp
          go_wp2
          go_ret
          exact ⟨by first | rfl | simp [go_sem], H4.out⟩
  · have hz : (((my : Nat) : Int) != ((k : Nat) : Int)) = true := by rw [bne_iff_ne]; omega
    have HN6 : Hid (D.nchk my y k = 6) := by show _ = _; unfold FD.nchk; rw [if_pos (by omega)]
    clear hmk
    go_wp2_with fail
    rw [← hwa]
    clear hwa p0 p1 p2 q0 q1 q2 hlt0 hlt1
    refine (cEncode_bad HA.out.1 (HA.out.2.1.below HB.out.1) (HA.out.2.2.1.below HB.out.1) HA.out.2.2.2.2.1 (by rw [HN6.out]; omega) (fun wx hx => HC.out _ (bel_up' HB.out.1 hx))).mono ?_
    rintro x w2 ⟨rfl, hb2⟩
    rw [HN6.out]
    have H2 : Hid (Below w.heap.size w w2 ∧ CW w.heap.size D n (.slice ao m ca) (.slice oo k oc) (.slice dd kd dc) w1.heap.size gm cm w2 ∧ ModAt D (.slice (some ⟨gm, 0, none⟩) (D.m + 1) cm) D.md w2) := ⟨bel_up' HB.out.1 hb2, HB.out.2.1.keep hb2, HB.out.2.2.below hb2⟩
    clear hb2
    go_wp2_with fail
    refine (list_err2 6 (by omega) none 0 (.slice none 0 0) w2).mono ?_
    rintro x w' ⟨rfl, hw⟩
    have hw := hw.symm
    subst hw
    obtain ⟨⟨p0, p1, p2⟩, _, ⟨s0, s1, s2⟩, _⟩ := H2.out.2.1
    go_wp2_with fail
    refine (wordMay_any HA.out.1 n (HA.out.2.2.2.1.below H2.out.1)).mono ?_
    rintro x wm ⟨rfl, hbm⟩
    have HM : Hid (Below w.heap.size w wm ∧ CW w.heap.size D n (.slice ao m ca) (.slice oo k oc) (.slice dd kd dc) w1.heap.size gm cm wm ∧ ModAt D (.slice (some ⟨gm, 0, none⟩) (D.m + 1) cm) D.md wm) := ⟨bel_up' H2.out.1 hbm, H2.out.2.1.keep hbm, H2.out.2.2.below hbm⟩
    clear hbm p0 p1 p2 s0 s1 s2
    by_cases hs : D.nchk mz z n = 0
    · have hmz : mz = n := by have := (nchk_ok hs).1; omega
      have HNs : Hid (D.nchk mz z n = 0) := hs
      rw [hs]
      clear hs
      subst hmz
      go_wp2_with fail
      obtain ⟨t, ht⟩ : ∃ t, t = ct (fun i => !decide (((dot D (Rd i) (zc mz z) mz : Nat) : Int) = 0)) kd := ⟨_, rfl⟩
      obtain ⟨b, hb⟩ : ∃ b, b = decide (t = 0) := ⟨_, rfl⟩
      have hzt : (((t : Nat) : Int) == 0) = b := by
        rw [hb]
        by_cases h : t = 0
        · rw [h]; rfl
        · rw [decide_eq_false h, beq_eq_false_iff_ne]; omega
      have hbb : (b == b) = true := by cases b <;> rfl
      have HT : Hid (t = ct (fun i => !decide (((dot D (Rd i) (zc mz z) mz : Nat) : Int) = 0)) kd ∧ b = decide (t = 0)) := ⟨ht, hb⟩
      clear ht hb
      have HS : Hid (∀ wx, Below w.heap.size w wx → Calls Try.prog 72 #[.agg #[.int .i64 D.q, .int .i64 (mz : Nat), .slice ao m ca], .slice zo mz cz] wx fun x w' => LstP wx.heap.size kd (fun i => dot D (Rd i) (zc mz z) mz) x w' ∧ Below wx.heap.size wx w') := fun wx hx =>
        cSyn_ok HA.out.1 (HA.out.2.1.below hx) (HA.out.2.2.2.1.below hx) HA.out.2.2.2.2.2.1 HNs.out (fun wy hy => HC.out _ (bel_up' hx hy))
      have HH : Hid (∀ wx, Below w.heap.size w wx → Calls Try.prog 43 #[.agg #[.int .i64 D.q, .int .i64 (mz : Nat), .slice ao m ca], .slice zo mz cz] wx fun x w' => x = .returned (.tuple #[.bool b, .int .i64 0]) ∧ Below wx.heap.size wx w') := fun wx hx => by
        rw [HT.out.2, HT.out.1]
        exact cHas_ok D.q mz (by omega) (fun wy hy => HS.out _ (bel_up' hx hy))
      go_loopw [19, 20] (fun vs vi wr => ∃ i : Nat, i ≤ kd ∧ vi = .int .i64 i ∧ Hid (OwnI wm.heap.size vs (zl i fun j => ((dot D (Rd j) (zc mz z) mz : Nat) : Int)) wr ∧ Below wm.heap.size wm wr)) (fun _ vi _ => kd - (intOf vi).toNat)
      case atStart => exact ⟨0, by omega, rfl, OwnI.nil _ _, Below.refl _ _⟩
      case round =>
        obtain ⟨i, hi, rfl, HG⟩ := hrel
        rename World => wr
        have hcw := HM.out.2.1.keep HG.out.2
        obtain ⟨⟨p0, p1, p2⟩, _, ⟨s0, s1, s2⟩, hbx, hfl⟩ := hcw
        by_cases hlt : i < kd
        · have hib : (i : Int) < (kd : Int) := by omega
          have hib0 : (0 : Int) ≤ (i : Int) := by omega
          have hbw : Below w.heap.size w wr := bel_up' HM.out.1 HG.out.2
          obtain ⟨ro', rc', ev, hrl⟩ := HA.out.2.2.2.2.2.2.2.below hbw
          cases ev
          obtain ⟨bR, oR, xr, cx, hro, hcr, hsr⟩ := hrl i hlt
          subst hro
          obtain ⟨u, hu⟩ : ∃ u, u = dot D (Rd i) (zc mz z) mz := ⟨_, rfl⟩
          have hArg := HA.out.2.2.2.1.below hbw
          have HC1 : Hid (∀ d os, Calls Try.prog 44 #[.agg #[.int .i64 D.q, .int .i64 D.p, .int .i64 D.m, .int .i64 D.gen, .slice (some ⟨gm, 0, none⟩) (D.m + 1) cm], .slice xr mz cx, .slice zo mz cz] (grow (redrawn wr d) os) fun e w'' => e = .returned (.int .i64 (u : Nat)) ∧ ∃ p : Regrown, w'' = grow (redrawn wr p.d) p.os) := fun d os => by
            rw [hu]
            have hg := below_regrown wr d os
            have hx := rl_lt hsr hn1
            exact Calls.regrown_of (rdot_any HA.out.1 D.gen gm cm (by omega) (fun j _ => HA.out.2.2.2.2.2.1.rows.1 i hlt j) (fun j hj => zc_lt HNs.out hj) (hsr.below hg hx) (fun a ha => Nat.lt_of_lt_of_le (hx a ha) hg.size) ((has_sl (nchk_ok HNs.out).2 hArg.sl).below hg hArg.lt) (fun a ha => Nat.lt_of_lt_of_le (hArg.lt a ha) hg.size) ((HM.out.2.2.below HG.out.2).below hg))
          have k0 := cell_regrown hbx.c0
          have k1 := cell_regrown hbx.c1
          have k2 := cell_regrown hbx.c2
          have k3 := cell_regrown hbx.c3
          have k4 := cell_regrown hbx.c4
          have k5 := cell_regrown s2
          have k6 := cell_regrown hcr
          have HU : Hid (u = dot D (Rd i) (zc mz z) mz) := hu
          clear hu hArg hrl hsr hbw hbx hfl
          go_wp2
          refine wp_region_quiet_below (by kernel_rfl) (by kernel_rfl) ?_
          repeat (go_big_quiet_step (first | (go_at_call 44; exact HC1.out _ _)))
          refine wpQuiet_nil ?_
          intro _ hw'
          obtain ⟨⟨dr, osr⟩, hw''⟩ := hw'
          subst hw''
          obtain ⟨wd, hwd⟩ : ∃ wd, wd = grow (redrawn wr dr) osr := ⟨_, rfl⟩
          have HO : Hid (OwnI wm.heap.size u19 (zl i fun j => ((dot D (Rd j) (zc mz z) mz : Nat) : Int)) wd ∧ Below wm.heap.size wm wd) := by
            have hg := below_regrown wr dr osr
            rw [hwd]; exact ⟨HG.out.1.below hg (fun k hk => (HG.out.1.lt k hk).2), bel_up' HG.out.2 hg⟩
          rw [← hwd]
          have hsz := HO.out.2.size
          clear hwd k0 k1 k2 k3 k4 k5 k6 p0 p1 p2 s0 s1 s2 hcr
          go_wp2_with (at_builtin; refine append_int rfl _ _ rfl wm.heap.size _ (zl i fun j => ((dot D (Rd j) (zc mz z) mz : Nat) : Int)) rfl (HO.out.1.alloc _) ⟨_, 0, none⟩ 1 (u : Int) rfl (by simp) (by rw [zl_len]; omega) (by simp; omega) ?_; intro v5 w5 hown5 hgrow5)
          have HR : Hid (OwnI wm.heap.size v5 (zl (i + 1) fun j => ((dot D (Rd j) (zc mz z) mz : Nat) : Int)) w5 ∧ Below wm.heap.size wm w5) := by
            refine ⟨by rw [zl_succ, ← HU.out]; exact hown5, (HO.out.2.alloc hsz _).grown hgrow5 (by simp; omega) (fun k hk => (HO.out.1.lt k hk).1)⟩
          clear hown5 hgrow5
          go_roundw
          case rel => exact ⟨i + 1, by omega, by go_num, HR.out⟩
          case measure => simp [intOf]; omega
        · have hib : ¬ (i : Int) < (kd : Int) := by omega
          have hie : kd = i := by omega
          subst hie
          have hki := HG.out.1.ki (by rw [zl_len]; omega)
          obtain ⟨so, sc, hv⟩ := sliceI_form hki.1
          have HK : Hid (KI (.slice so kd sc) (zl kd fun j => ((dot D (Rd j) (zc mz z) mz : Nat) : Int)) wr ∧ Below w.heap.size w wr ∧ CB w.heap.size D.q mz (.slice ao m ca) wr) := ⟨by rw [← hv]; exact hki, bel_up' HM.out.1 HG.out.2, HM.out.2.1.1.keep HG.out.2⟩
          subst hv
          clear hki hbx hfl
          go_wp2_with fail
          refine (HS.out _ HK.out.2.1).mono ?_
          rintro x w3 ⟨⟨gr, c, rfl, hrow, hg, hc, _⟩, hb3⟩
          have H3 : Hid (Below w.heap.size w w3 ∧ CB w.heap.size D.q mz (.slice ao m ca) w3 ∧ KI (.slice so kd sc) (zl kd fun j => ((dot D (Rd j) (zc mz z) mz : Nat) : Int)) w3 ∧ Row gr kd (fun i => dot D (Rd i) (zc mz z) mz) w3) := ⟨bel_up' HK.out.2.1 hb3, HK.out.2.2.keep hb3, HK.out.1.below hb3, hrow⟩
          clear hb3 hrow hg hc p0 p1 p2 s0 s1 s2
          obtain ⟨p0, p1, p2⟩ := H3.out.2.1
          go_wp2_with fail
          refine (HH.out _ H3.out.1).mono ?_
          rintro x w4 ⟨rfl, hb4⟩
          have H4 : Hid (Below w.heap.size w w4 ∧ KI (.slice so kd sc) (zl kd fun j => ((dot D (Rd j) (zc mz z) mz : Nat) : Int)) w4 ∧ Row gr kd (fun i => dot D (Rd i) (zc mz z) mz) w4) := ⟨bel_up' H3.out.1 hb4, H3.out.2.2.1.below hb4, H3.out.2.2.2.below hb4 H3.out.2.2.2.lt⟩
          clear hb4 p0 p1 p2
          go_wp2_with fail
          refine (list_gen (Or.inr ⟨rfl, _, sl_sliceI (H4.out.2.2.sl (Nat.le_refl _)) (by omega), H4.out.2.1.1⟩)).mono ?_
          rintro x w' ⟨rfl, dn, hw⟩
          have H5 : Hid (Below w.heap.size w w' ∧ KI (.slice so kd sc) (zl kd fun j => ((dot D (Rd j) (zc mz z) mz : Nat) : Int)) w') := by rw [hw]; exact ⟨below_drewN2 H4.out.1 dn, H4.out.2.1.drewN dn⟩
          clear hw
          have HWt : Hid (∀ cc, Calls Try.prog 29 #[.slice so kd cc] w' fun e w'' => e = .returned (.int .i64 (t : Nat)) ∧ Below w'.heap.size w' w'') := fun cc => by
            rw [HT.out.1]
            exact rweight_any (sliceI_slz H5.out.2.1) (fun a ha => H5.out.2.2 a.block (by rw [ha]; rfl)) (by omega)
          go_wp2_with fail
          refine (HWt.out _).mono ?_
          rintro x w6 ⟨rfl, hb6⟩
          have H6 : Hid (Below w.heap.size w w6) := bel_up' H5.out.1 hb6
          clear hb6
          go_wp2
          go_ret
          exact ⟨by first | rfl | simp [go_sem], H6.out⟩
    · obtain ⟨e, he⟩ : ∃ e, e = D.nchk mz z n := ⟨_, rfl⟩
      have HE : Hid (e = D.nchk mz z n ∧ D.nchk mz z n ≠ 0) := ⟨he, hs⟩
      have hz : (e == 0) = false := by rw [beq_eq_false_iff_ne, he]; exact hs
      rw [← he]
      clear hs he
      have HS : Hid (∀ wx, Below w.heap.size w wx → Calls Try.prog 72 #[.agg #[.int .i64 D.q, .int .i64 (n : Nat), .slice ao m ca], .slice zo mz cz] wx fun x w' => x = .returned (.tuple #[.slice none 0 0, .int .i64 e]) ∧ Below wx.heap.size wx w') := fun wx hx => by
        rw [HE.out.1]
        exact cSyn_bad HA.out.1 (HA.out.2.1.below hx) (HA.out.2.2.2.1.below hx) HA.out.2.2.2.2.2.1 HE.out.2 (fun wy hy => HC.out _ (bel_up' hx hy))
      have HH : Hid (∀ wx, Below w.heap.size w wx → Calls Try.prog 43 #[.agg #[.int .i64 D.q, .int .i64 (n : Nat), .slice ao m ca], .slice zo mz cz] wx fun x w' => x = .returned (.tuple #[.bool false, .int .i64 e]) ∧ Below wx.heap.size wx w') := fun wx hx =>
        cHas_err e (by rw [HE.out.1]; exact HE.out.2) D.q n (fun wy hy => HS.out _ (bel_up' hx hy))
      obtain ⟨⟨p0, p1, p2⟩, _, ⟨s0, s1, s2⟩, _⟩ := HM.out.2.1
      go_wp2_with fail
      refine wp_loop_rounds 1 ?_
      rw [rounds_succ]
      rcases Nat.eq_zero_or_pos kd with hk0 | hk0
      · subst hk0
        go_wp2_with fail
        refine (HS.out _ HM.out.1).mono ?_
        rintro x w3 ⟨rfl, hb3⟩
        have H3 : Hid (Below w.heap.size w w3 ∧ CB w.heap.size D.q n (.slice ao m ca) w3) := ⟨bel_up' HM.out.1 hb3, HM.out.2.1.1.keep hb3⟩
        clear hb3 p0 p1 p2 s0 s1 s2
        obtain ⟨p0, p1, p2⟩ := H3.out.2
        go_wp2_with fail
        refine (HH.out _ H3.out.1).mono ?_
        rintro x w4 ⟨rfl, hb4⟩
        have H4 : Hid (Below w.heap.size w w4) := bel_up' H3.out.1 hb4
        clear hb4 p0 p1 p2
        go_wp2_with fail
        refine (list_err2 e (by rw [HE.out.1]; exact HE.out.2) none 0 (.slice none 0 0) w4).mono ?_
        rintro x w' ⟨rfl, hw⟩
        have hw := hw.symm
        subst hw
        have hz2 : (e == e) = true := by simp
        go_wp2
        go_ret
        exact ⟨by first | rfl | simp [go_sem], H4.out⟩
      · have hkb : (0 : Int) < (kd : Int) := by omega
        go_wp2_with fail
        refine (HS.out _ HM.out.1).mono ?_
        rintro x w3 ⟨rfl, hb3⟩
        have H3 : Hid (Below w.heap.size w w3 ∧ CB w.heap.size D.q n (.slice ao m ca) w3) := ⟨bel_up' HM.out.1 hb3, HM.out.2.1.1.keep hb3⟩
        clear hb3 p0 p1 p2 s0 s1 s2
        obtain ⟨p0, p1, p2⟩ := H3.out.2
        go_wp2_with fail
        refine (HH.out _ H3.out.1).mono ?_
        rintro x w4 ⟨rfl, hb4⟩
        have H4 : Hid (Below w.heap.size w w4) := bel_up' H3.out.1 hb4
        clear hb4 p0 p1 p2
        go_wp2_with fail
        refine (list_err2 e (by rw [HE.out.1]; exact HE.out.2) none 0 (.slice none 0 0) w4).mono ?_
        rintro x w' ⟨rfl, hw⟩
        have hw := hw.symm
        subst hw
        have hz2 : (e == e) = true := by simp
        go_wp2
        go_ret
        exact ⟨by first | rfl | simp [go_sem], H4.out⟩
end Go.Proofs.Ytbpeahhhkcljeaa
