/- Texts of ours, one behind the other: KY12 KY13 KY14 S100. -/
import Derived.Test.YtbnkekeeceicaaaGreatZKY10
import Derived.Test.YtbnkekeeceicaaaGreatZR9
import Derived.Test.YtbnkekeeceicaaaGreatZKW6
import Derived.Test.YtbnkekeeceicaaaGreatZKF1
import Derived.Test.YtbnkekeeceicaaaGreatZKX6
import Derived.Test.YtbnkekeeceicaaaGreatZS12
/- Nets: Plan where it says an error at once. -/
namespace Go.Proofs.YtbnkekeeceicaaaGreat
open Go.RowKit Go.Sort

set_option maxHeartbeats 2000000 in
set_option maxRecDepth 100000 in
theorem plan_none (q n h : Int) (hq : ∀ D ∈ fieldsL, (D.q : Int) ≠ q) {eo so : Option Addr} {m ec k sc : Nat} {w : World} :
    Calls Tryz.prog 14 #[.int .i64 q, .agg #[.int .i64 n, .slice eo m ec], .slice so k sc, .int .i64 h] w fun e w' => e = .returned (.tuple #[.slice none 0 0, .int .i64 1]) ∧ Below w.heap.size w w' := by
  obtain ⟨wa, hwa⟩ : ∃ wa, wa = w.alloc (.cells #[.int .i64 n, .slice eo m ec] 24) := ⟨_, rfl⟩
  have HB : Hid ((∀ D ∈ fieldsL, (D.q : Int) ≠ q) ∧ Below w.heap.size w wa) := ⟨hq, by rw [hwa]; exact (Below.refl _ _).alloc (Nat.le_refl _) _⟩
  clear hq
  go_enter Tryz.func14, Tryz.ntmps14
  go_wp2_with fail
  rw [← hwa]
  clear hwa
  refine (new_none q wa HB.out.1).mono ?_
  rintro e w' ⟨rfl, hw⟩
  have hw := hw.symm
  subst hw
  go_wp2
  go_ret2
  exact ⟨rfl, HB.out.2⟩
set_option maxHeartbeats 2000000 in
set_option maxRecDepth 100000 in
theorem plan_err {D : FD} (hD : D ∈ fieldsL) (n h : Int) {E : Int} (hE0 : E ≠ 0) {eo so : Option Addr} {m ec k sc : Nat} {w : World} (hC : ∀ wx, Below w.heap.size w wx → Calls Tryz.prog 29 #[.int .i64 D.q, .agg #[.int .i64 n, .slice eo m ec], .slice so k sc, .int .i64 h] wx fun e w' => e = .returned (.int .i64 E) ∧ Below wx.heap.size wx w') :
    Calls Tryz.prog 14 #[.int .i64 D.q, .agg #[.int .i64 n, .slice eo m ec], .slice so k sc, .int .i64 h] w fun e w' => e = .returned (.tuple #[.slice none 0 0, .int .i64 E]) ∧ Below w.heap.size w w' := by
  obtain ⟨wa, hwa⟩ : ∃ wa, wa = w.alloc (.cells #[.int .i64 n, .slice eo m ec] 24) := ⟨_, rfl⟩
  have HA : Hid (NB w.heap.size n (.slice eo m ec) wa ∧ Below w.heap.size w wa) := ⟨by rw [hwa]; exact NB.new _ _ _, by rw [hwa]; exact (Below.refl _ _).alloc (Nat.le_refl _) _⟩
  have HCk : Hid (∀ wx, Below w.heap.size w wx → Calls Tryz.prog 29 #[.int .i64 D.q, .agg #[.int .i64 n, .slice eo m ec], .slice so k sc, .int .i64 h] wx fun e w' => e = .returned (.int .i64 E) ∧ Below wx.heap.size wx w') := hC
  have HNw : Hid (D ∈ fieldsL) := hD
  have z0 : (E != 0) = true := bne_iff_ne.2 hE0
  clear hD hC hE0
  go_enter Tryz.func14, Tryz.ntmps14
  go_wp2_with fail
  rw [← hwa]
  clear hwa
  refine (new_any HNw.out wa).mono ?_
  rintro e w1 ⟨Fb, Tb, g, rfl, _, _, _, hb1⟩
  have H1 : Hid (NB w.heap.size n (.slice eo m ec) w1 ∧ Below w.heap.size w w1) := ⟨HA.out.1.keep hb1, bel_up' HA.out.2 hb1⟩
  clear hb1 HA
  obtain ⟨c0, c1⟩ := H1.out.1
  go_wp2_with fail
  refine (HCk.out w1 H1.out.2).mono ?_
  rintro e w2 ⟨rfl, hb2⟩
  have H2 : Hid (Below w.heap.size w w2) := bel_up' H1.out.2 hb2
  clear hb2 c0 c1
  go_wp2
  go_ret2
  exact ⟨rfl, H2.out⟩
end Go.Proofs.YtbnkekeeceicaaaGreat

/- Nets: which plans may be asked for (the reference's NetPlanMay). -/
namespace Go.Proofs.YtbnkekeeceicaaaGreat
open Go.RowKit Go.Sort

theorem slz_slI {ao : Option Addr} {n cap : Nat} {z : Nat → Int} {w : World} (h : SlZ ao n z w) (hn : n ≤ 1000000) : SliceI (.slice ao n cap) (zl n z) w := by
  by_cases h0 : n = 0
  · subst h0
    exact Or.inl ⟨rfl, ao, cap, rfl⟩
  · obtain ⟨b, off, rfl, _⟩ := h 0 (by omega)
    refine Or.inr ⟨fun e => ?_, by rw [zl_len]; exact hn, b, off, cap, by rw [zl_len], fun j hj => ?_⟩
    · have := congrArg List.length e
      rw [zl_len] at this
      exact h0 this
    · rw [zl_len] at hj
      obtain ⟨b', off', e, hc⟩ := h j hj
      cases e
      rw [zl_getD n z j hj]; exact hc
/-- Is a sink's cut less than h? -/
def ctLs (n m h : Nat) (F T : Nat → Nat) (tt : Nat → Nat) : Nat → Bool
  | 0 => false
  | i + 1 => ctLs n m h F T tt i || decide ((cuB m F T (tt i) (2 ^ (n - 1))).1 < h)
set_option maxHeartbeats 4000000 in
set_option maxRecDepth 100000 in
theorem rplanMay_any {D : FD} (n h : Int) {eo so : Option Addr} {m ec L sc : Nat} {F T z : Nat → Int} {w : World} (hE : EdZ eo m F T w) (hm : m ≤ 1000000) (hS : SlZ so L z w) (hL : L ≤ 1000000) (hc : L ≤ sc)
    (h2 : ∀ wx, Below w.heap.size w wx → Calls Tryz.prog 15 #[.int .i64 D.q] wx fun e w' => ∃ gm cm, e = .returned (.tuple #[.agg #[.int .i64 D.q, .int .i64 D.p, .int .i64 D.m, .int .i64 D.gen, .slice (some ⟨gm, 0, none⟩) (D.m + 1) cm], .int .i64 0]) ∧ Below wx.heap.size wx w') (hE0 : spchk D.q n h L z (nchkE n m F T) ≠ 0) :
    Calls Tryz.prog 13 #[.int .i64 D.q, .agg #[.int .i64 n, .slice eo m ec], .slice so L sc, .int .i64 h] w fun e w' => e = .returned (.int .i64 (spchk D.q n h L z (nchkE n m F T))) ∧ Below w.heap.size w w' := by
  obtain ⟨wa, hwa⟩ : ∃ wa, wa = w.alloc (.cells #[.int .i64 n, .slice eo m ec] 24) := ⟨_, rfl⟩
  obtain ⟨E, hEe⟩ : ∃ E, E = nchkE n m F T := ⟨_, rfl⟩
  have hba : Below w.heap.size w wa := by rw [hwa]; exact (Below.refl _ _).alloc (Nat.le_refl _) _
  have HA : Hid (NB w.heap.size n (.slice eo m ec) wa ∧ Below w.heap.size w wa) := ⟨by rw [hwa]; exact NB.new _ _ _, hba⟩
  have HC : Hid (∀ wx, Below w.heap.size w wx → Calls Tryz.prog 5 #[.agg #[.int .i64 n, .slice eo m ec]] wx fun e w' => e = .returned (.int .i64 E) ∧ Below wx.heap.size wx w') := fun wx hx => by
    rw [hEe]; exact rnetMay_any n (hE.below hx) hm
  have HT : Hid (∀ tx wx, Below w.heap.size w wx → Calls Tryz.prog 6 #[.agg #[.int .i64 n, .slice eo m ec], .int .i64 tx] wx fun e w' => e = .returned (.int .i64 (skchk n tx E)) ∧ Below wx.heap.size wx w') := fun tx wx hx => by rw [hEe]; exact rsinkMay_any n tx (hE.below hx) hm
  have HS : Hid (SlZ so L z w) := hS
  have HFi := h2 wa hba
  rw [← hEe]
  rw [← hEe] at hE0
  have HE0 : Hid (spchk D.q n h L z E ≠ 0) := hE0
  clear hE hEe hS hE0 h2
  go_enter Tryz.func13, Tryz.ntmps13
  go_wp2_with fail
  rw [← hwa]
  clear hwa
  refine HFi.mono ?_
  rintro e w1 ⟨gm, cm, rfl, hb1⟩
  have H1 : Hid (NB w.heap.size n (.slice eo m ec) w1 ∧ Below w.heap.size w w1) := ⟨HA.out.1.keep hb1, bel_up' HA.out.2 hb1⟩
  clear hb1 HA HFi hba
  obtain ⟨wb, hwb⟩ : ∃ wb, wb = w1.alloc (.cells #[.int .i64 D.q, .int .i64 D.p, .int .i64 D.m, .int .i64 D.gen, .slice (some ⟨gm, 0, none⟩) (D.m + 1) cm] 42) := ⟨_, rfl⟩
  have hbb : Below w1.heap.size w1 wb := by rw [hwb]; exact (Below.refl _ _).alloc (Nat.le_refl _) _
  have HB : Hid (NB w.heap.size n (.slice eo m ec) wb ∧ Below w.heap.size w wb) := ⟨H1.out.1.keep hbb, bel_up' H1.out.2 hbb⟩
  clear hbb H1
  obtain ⟨c0, c1⟩ := HB.out.1
  rw [hwb] at c0 c1
  go_wp2_with fail
  rw [← hwb]
  clear hwb c0 c1
  refine (HC.out wb HB.out.2).mono ?_
  rintro e w2 ⟨rfl, hb2⟩
  have H2 : Hid (NB w.heap.size n (.slice eo m ec) w2 ∧ Below w.heap.size w w2) := ⟨HB.out.1.keep hb2, bel_up' HB.out.2 hb2⟩
  clear hb2 HB HC
  by_cases h0 : E = 0
  · have z0 : (E != 0) = false := by rw [h0]; rfl
    have HEz : Hid (E = 0) := h0
    have HV : Hid (spchk D.q n h L z E = if h < 1 ∨ 24 < h then 6 else if (L : Int) < 1 ∨ (D.q : Int) < (L : Int) then 4 else snks n z L) := by show _ = _; unfold spchk; rw [if_neg (fun x => x h0)]
    clear h0
    by_cases a1 : h < 1
    · have d1 : decide (h < 1) = true := decide_eq_true a1
      have HQ : Hid (spchk D.q n h L z E = 6) := by show _ = _; rw [HV.out, if_pos (Or.inl a1)]
      go_wp2
      go_ret
      exact ⟨by rw [HQ.out]; rfl, H2.out.2⟩
    · have d1 : decide (h < 1) = false := decide_eq_false a1
      by_cases a2 : h > 24
      · have d2 : decide (h > 24) = true := decide_eq_true a2
        have HQ : Hid (spchk D.q n h L z E = 6) := by show _ = _; rw [HV.out, if_pos (Or.inr a2)]
        go_wp2
        go_ret
        exact ⟨by rw [HQ.out]; rfl, H2.out.2⟩
      · have d2 : decide (h > 24) = false := decide_eq_false a2
        by_cases a3 : (L : Int) < 1
        · have d3 : decide ((L : Int) < 1) = true := decide_eq_true a3
          have HQ : Hid (spchk D.q n h L z E = 4) := by show _ = _; rw [HV.out, if_neg (by omega), if_pos (Or.inl a3)]
          go_wp2
          go_ret
          exact ⟨by rw [HQ.out]; rfl, H2.out.2⟩
        · have d3 : decide ((L : Int) < 1) = false := decide_eq_false a3
          by_cases a4 : (L : Int) > D.q
          · have d4 : decide (D.q < L) = true := decide_eq_true (by omega)
            have HQ : Hid (spchk D.q n h L z E = 4) := by show _ = _; rw [HV.out, if_neg (by omega), if_pos (Or.inr a4)]
            go_wp2
            go_ret
            exact ⟨by rw [HQ.out]; rfl, H2.out.2⟩
          · have d4 : decide (D.q < L) = false := decide_eq_false (by omega)
            have HQ : Hid (spchk D.q n h L z E = snks n z L) := by show _ = _; rw [HV.out, if_neg (by omega), if_neg (by omega)]
            clear a1 a2 a3 a4
            go_wp2
            clear d1 d2 d3 d4 z0
            go_loopw [11] (fun vi wr => ∃ (i : Nat), i ≤ L ∧ vi = .int .i64 i ∧ Hid (snks n z i = 0 ∧ NB w.heap.size n (.slice eo m ec) wr ∧ Below w.heap.size w wr)) (fun vi _ => L - (RowKit.intOf vi).toNat)
            case atStart => exact ⟨0, by omega, rfl, rfl, H2.out⟩
            case round =>
              obtain ⟨i, hi, rfl, HG⟩ := hrel
              rename World => wr
              by_cases hlt : i < L
              · have hib : (i : Int) < (L : Int) := by omega
                have hib0 : (0 : Int) ≤ (i : Int) := by omega
                have hic : (i : Int) ≤ (sc : Int) := by omega
                obtain ⟨b, off, rfl, hcs⟩ := (slz_below HS.out HG.out.2.2) i hlt
                obtain ⟨x, hx⟩ : ∃ x, x = z i := ⟨_, rfl⟩
                rw [← hx] at hcs
                obtain ⟨c0, c1⟩ := HG.out.2.1
                obtain ⟨t, ht⟩ : ∃ t, t = decide (x ∈ zl i z) := ⟨_, rfl⟩
                have HSn : Hid (snks n z (i + 1) = if x < 1 ∨ n ≤ x then 10 else if t = true then 7 else 0) := by
                  show (if snks n z i ≠ 0 then snks n z i else if z i < 1 ∨ n ≤ z i then 10 else if z i ∈ zl i z then 7 else 0) = _
                  rw [if_neg (fun c => c HG.out.1), ← hx, ht]
                  simp only [decide_eq_true_eq]
                have HCo : Hid (∀ wx cc, Below w.heap.size w wx → Calls Tryz.prog 27 #[.int .i64 x, .slice (some ⟨b, off, none⟩) i cc] wx fun e w' => e = .returned (.bool t) ∧ ∃ n, w' = wx.drewN n) := fun wx cc hx2 => by
                  rw [ht]
                  exact in_any x (slz_slI ((slz_below HS.out hx2).less (by omega)) (by omega))
                have HTx : Hid (∀ d, Calls Tryz.prog 6 #[.agg #[.int .i64 n, .slice eo m ec], .int .i64 x] (wr.drewN d) fun e w' => e = .returned (.int .i64 (skchk n x E)) ∧ Below (wr.drewN d).heap.size (wr.drewN d) w') := fun d => HT.out x (wr.drewN d) (below_drewN2 HG.out.2.2 d)
                obtain ⟨s1, hs1⟩ : ∃ s1, s1 = skchk n x E := ⟨_, rfl⟩
                have HS1 : Hid (s1 = if x < 1 ∨ n ≤ x then 10 else 0) := by show _ = _; rw [hs1]; unfold skchk; rw [if_neg (fun c => c HEz.out)]
                rw [← hs1] at HTx
                have HXZ : Hid (x = z i) := hx
                clear ht hx hs1
                go_wp2
                refine quiet_tail 5 (by kernel_rfl) (by kernel_rfl) ?_
                simp only [List.take_succ_cons, List.take_zero, List.drop_succ_cons, List.drop_zero]
                repeat (go_big_quiet_step (fail))
                refine wpQuiet_nil ?_
                intro _ hw'
                obtain ⟨nq, hw''⟩ := hw'
                subst hw''
                go_wp2_with fail
                refine (HTx.out nq).mono ?_
                rintro e w3 ⟨rfl, hb3⟩
                have H3 : Hid (NB w.heap.size n (.slice eo m ec) w3 ∧ Below w.heap.size w w3) := ⟨HG.out.2.1.keep (bel_up' (below_drewN2 (Below.refl wr.heap.size wr) nq) hb3), bel_up' (below_drewN2 HG.out.2.2 nq) hb3⟩
                have hcs3 := ((slz_below HS.out H3.out.2) i hlt)
                clear hb3 c0 c1 hcs
                obtain ⟨b', off', hbo, hcs⟩ := hcs3
                cases hbo
                rw [← HXZ.out] at hcs
                have HC3 : Hid (∀ cc d, Calls Tryz.prog 27 #[.int .i64 x, .slice (some ⟨b, off, none⟩) i cc] (w3.drewN d) fun e w' => e = .returned (.bool t) ∧ ∃ n, w' = (w3.drewN d).drewN n) := fun cc d => HCo.out (w3.drewN d) cc (below_drewN2 H3.out.2 d)
                by_cases a5 : x < 1 ∨ n ≤ x
                · have hs10 : s1 = 10 := by rw [HS1.out, if_pos a5]
                  have HS7 : Hid (snks n z L = 10) := snks_end (i := i + 1) (by rw [HSn.out, if_pos a5]) (by decide) (by omega)
                  subst hs10
                  clear a5
                  go_wp2
                  go_ret
                  exact ⟨by rw [HQ.out, HS7.out]; rfl, H3.out.2⟩
                · have hs0 : s1 = 0 := by rw [HS1.out, if_neg a5]
                  have HSn2 : Hid (snks n z (i + 1) = if t = true then 7 else 0) := by show _ = _; rw [HSn.out, if_neg a5]
                  subst hs0
                  clear a5 HSn
                  cases t with
                  | true =>
                    have HS7 : Hid (snks n z L = 7) := snks_end (i := i + 1) (by rw [HSn2.out]; rfl) (by decide) (by omega)
                    go_wp2
                    go_quiet ((go_at_call 27; exact Calls.quiet_of (HC3.out _ _)))
                    go_wp2
                    go_ret
                    exact ⟨by rw [HQ.out, HS7.out]; rfl, below_drewN2 H3.out.2 _⟩
                  | false =>
                    go_wp2
                    go_quiet ((go_at_call 27; exact Calls.quiet_of (HC3.out _ _)))
                    go_wp2
                    go_roundw
                    case rel => exact ⟨i + 1, by omega, by go_num, by rw [HSn2.out]; rfl, ⟨H3.out.1.c0, H3.out.1.c1⟩, below_drewN2 H3.out.2 _⟩
                    case measure => simp [RowKit.intOf]; omega
              · exfalso
                have e1 : i = L := by omega
                subst e1
                exact HE0.out (HQ.out.trans HG.out.1)
  · have z0 : (E != 0) = true := bne_iff_ne.2 h0
    have HV : Hid (spchk D.q n h L z E = E) := by show _ = _; unfold spchk; rw [if_pos h0]
    clear h0
    go_wp2
    go_ret
    exact ⟨by rw [HV.out]; rfl, H2.out.2⟩
end Go.Proofs.YtbnkekeeceicaaaGreat

/- Nets: which plans may be asked for, where net and sinks may be (the reference's NetPlanMay). -/
namespace Go.Proofs.YtbnkekeeceicaaaGreat
open Go.RowKit Go.Sort

theorem snks_pre {n : Int} {z : Nat → Int} {L : Nat} (h : snks n z L = 0) : ∀ i, i ≤ L → snks n z i = 0 := fun i hi => by
  by_cases c : snks n z i = 0
  · exact c
  · rw [snks_end rfl c hi] at h; exact absurd h c
theorem snks_at {n : Int} {z : Nat → Int} {L : Nat} (h : snks n z L = 0) {i : Nat} (hi : i < L) : ¬ (z i < 1 ∨ n ≤ z i) ∧ z i ∉ zl i z := by
  have h1 := snks_pre h (i + 1) (by omega)
  have h0 := snks_pre h i (by omega)
  have h1 : (if snks n z i ≠ 0 then snks n z i else if z i < 1 ∨ n ≤ z i then 10 else if z i ∈ zl i z then 7 else 0) = 0 := h1
  rw [if_neg (fun c => c h0)] at h1
  by_cases c : z i < 1 ∨ n ≤ z i
  · rw [if_pos c] at h1; cases h1
  · rw [if_neg c] at h1
    by_cases d : z i ∈ zl i z
    · rw [if_pos d] at h1; cases h1
    · exact ⟨c, d⟩
theorem spchk_zero {q n h : Int} {L : Nat} {z : Nat → Int} {E : Int} (H : spchk q n h L z E = 0) : E = 0 ∧ 1 ≤ h ∧ h ≤ 24 ∧ 1 ≤ L ∧ (L : Int) ≤ q ∧ snks n z L = 0 := by
  unfold spchk at H
  by_cases c : E ≠ 0
  · rw [if_pos c] at H; exact absurd H c
  · rw [if_neg c] at H
    by_cases d : h < 1 ∨ 24 < h
    · rw [if_pos d] at H; cases H
    · rw [if_neg d] at H
      by_cases f : (L : Int) < 1 ∨ q < (L : Int)
      · rw [if_pos f] at H; cases H
      · rw [if_neg f] at H
        exact ⟨Decidable.not_not.1 c, by omega, by omega, by omega, by omega, H⟩
theorem ctLs_keep {n m h : Nat} {F T tt : Nat → Nat} {i : Nat} (H : ctLs n m h F T tt i = true) : ∀ d, ctLs n m h F T tt (i + d) = true
  | 0 => H
  | d + 1 => by
    show (ctLs n m h F T tt (i + d) || _) = true
    rw [ctLs_keep H d]; rfl
/-- What NetPlanMay says of a net and sinks that may be. -/
def PmP (n m h L : Nat) (F T tt : Nat → Nat) (w : World) (e : Ending) (w' : World) : Prop := ∃ x : Int, e = .returned (.int .i64 x) ∧ (ctLs n m h F T tt L = true → x = 9) ∧ (ctLs n m h F T tt L = false → x = 0) ∧ Below w.heap.size w w'
set_option maxHeartbeats 4000000 in
set_option maxRecDepth 100000 in
theorem rplanMay_ok {D : FD} {n h : Nat} {eo so : Option Addr} {m ec L sc : Nat} {F T tt : Nat → Nat} {w : World} (hE : EdZ eo m (fun i => ((F i : Nat) : Int)) (fun i => ((T i : Nat) : Int)) w) (hN : Nt n m F T) (hn : 0 < n) (hn10 : n ≤ 10) (hm : m ≤ 24) (hS : SlZ so L (fun s => ((tt s : Nat) : Int)) w) (hL : L ≤ 1000000) (hc : L ≤ sc)
    (h2 : ∀ wx, Below w.heap.size w wx → Calls Tryz.prog 15 #[.int .i64 D.q] wx fun e w' => ∃ gm cm, e = .returned (.tuple #[.agg #[.int .i64 D.q, .int .i64 D.p, .int .i64 D.m, .int .i64 D.gen, .slice (some ⟨gm, 0, none⟩) (D.m + 1) cm], .int .i64 0]) ∧ Below wx.heap.size wx w') (hE0 : spchk D.q (n : Nat) (h : Nat) L (fun s => ((tt s : Nat) : Int)) (nchkE (n : Nat) m (fun i => ((F i : Nat) : Int)) (fun i => ((T i : Nat) : Int))) = 0) :
    Calls Tryz.prog 13 #[.int .i64 D.q, .agg #[.int .i64 (n : Nat), .slice eo m ec], .slice so L sc, .int .i64 (h : Nat)] w (PmP n m h L F T tt w) := by
  obtain ⟨p1, p2, p3, p4, p5, p6⟩ := spchk_zero hE0
  obtain ⟨wa, hwa⟩ : ∃ wa, wa = w.alloc (.cells #[.int .i64 (n : Nat), .slice eo m ec] 24) := ⟨_, rfl⟩
  have hba : Below w.heap.size w wa := by rw [hwa]; exact (Below.refl _ _).alloc (Nat.le_refl _) _
  have HA : Hid (NB w.heap.size (n : Nat) (.slice eo m ec) wa ∧ Below w.heap.size w wa) := ⟨by rw [hwa]; exact NB.new _ _ _, hba⟩
  have HC : Hid (∀ wx, Below w.heap.size w wx → Calls Tryz.prog 5 #[.agg #[.int .i64 (n : Nat), .slice eo m ec]] wx fun e w' => e = .returned (.int .i64 0) ∧ Below wx.heap.size wx w') := fun wx hx => by
    rw [← p1]; exact rnetMay_any _ (hE.below hx) (by omega)
  have HTT : Hid (∀ i, i < L → ¬ (((tt i : Nat) : Int) < 1 ∨ ((n : Nat) : Int) ≤ ((tt i : Nat) : Int)) ∧ ((tt i : Nat) : Int) ∉ zl i (fun s => ((tt s : Nat) : Int))) := fun i hi => snks_at p6 hi
  have HT : Hid (∀ i wx, i < L → Below w.heap.size w wx → Calls Tryz.prog 6 #[.agg #[.int .i64 (n : Nat), .slice eo m ec], .int .i64 (tt i : Nat)] wx fun e w' => e = .returned (.int .i64 0) ∧ Below wx.heap.size wx w') := fun i wx hi hx => by
    have h9 := rsinkMay_any (n : Nat) (tt i : Nat) (ec := ec) (hE.below hx) (by omega)
    rw [p1, show skchk (n : Nat) (tt i : Nat) 0 = 0 by unfold skchk; rw [if_neg (fun c => c rfl), if_neg (HTT.out i hi).1]] at h9
    exact h9
  have HCu : Hid (∀ i wx, i < L → Below w.heap.size w wx → Calls Tryz.prog 7 #[.agg #[.int .i64 (n : Nat), .slice eo m ec], .int .i64 (tt i : Nat)] wx fun r w' => ∃ v, r = .returned (.tuple #[.int .i64 ((cuB m F T (tt i) (2 ^ (n - 1))).1 : Nat), v]) ∧ Below wx.heap.size wx w') := fun i wx hi hx => by
    refine (rcuts_any (hE.below hx) hN hn hn10 (by omega) (by have := (HTT.out i hi).1; omega)).mono ?_
    rintro r w' ⟨v, e, _, hb⟩
    exact ⟨v, e, hb⟩
  have HS : Hid (SlZ so L (fun s => ((tt s : Nat) : Int)) w) := hS
  have HFi := h2 wa hba
  have d1 : decide (((h : Nat) : Int) < 1) = false := decide_eq_false (by omega)
  have d1b : ¬ h < 1 := by omega
  have d2 : decide (((h : Nat) : Int) > 24) = false := decide_eq_false (by omega)
  have d3 : decide ((L : Int) < 1) = false := decide_eq_false (by omega)
  have d4 : decide (D.q < L) = false := decide_eq_false (by omega)
  clear hE hS hE0 h2 p1 p2 p3 p4 p5 p6
  go_enter Tryz.func13, Tryz.ntmps13
  go_wp2_with fail
  rw [← hwa]
  clear hwa
  refine HFi.mono ?_
  rintro e w1 ⟨gm, cm, rfl, hb1⟩
  have H1 : Hid (NB w.heap.size (n : Nat) (.slice eo m ec) w1 ∧ Below w.heap.size w w1) := ⟨HA.out.1.keep hb1, bel_up' HA.out.2 hb1⟩
  clear hb1 HA HFi hba
  obtain ⟨wb, hwb⟩ : ∃ wb, wb = w1.alloc (.cells #[.int .i64 D.q, .int .i64 D.p, .int .i64 D.m, .int .i64 D.gen, .slice (some ⟨gm, 0, none⟩) (D.m + 1) cm] 42) := ⟨_, rfl⟩
  have hbb : Below w1.heap.size w1 wb := by rw [hwb]; exact (Below.refl _ _).alloc (Nat.le_refl _) _
  have HB : Hid (NB w.heap.size (n : Nat) (.slice eo m ec) wb ∧ Below w.heap.size w wb) := ⟨H1.out.1.keep hbb, bel_up' H1.out.2 hbb⟩
  clear hbb H1
  obtain ⟨c0, c1⟩ := HB.out.1
  rw [hwb] at c0 c1
  go_wp2_with fail
  rw [← hwb]
  clear hwb c0 c1
  refine (HC.out wb HB.out.2).mono ?_
  rintro e w2 ⟨rfl, hb2⟩
  have H2 : Hid (NB w.heap.size (n : Nat) (.slice eo m ec) w2 ∧ Below w.heap.size w w2) := ⟨HB.out.1.keep hb2, bel_up' HB.out.2 hb2⟩
  clear hb2 HB HC
  go_wp2
  clear d1 d1b d2 d3 d4
  go_loopw [11] (fun vi wr => ∃ (i : Nat), i ≤ L ∧ vi = .int .i64 i ∧ Hid (NB w.heap.size (n : Nat) (.slice eo m ec) wr ∧ Below w.heap.size w wr)) (fun vi _ => L - (RowKit.intOf vi).toNat)
  case atStart => exact ⟨0, by omega, rfl, H2.out⟩
  case round =>
    obtain ⟨i, hi, rfl, HG⟩ := hrel
    rename World => wr
    by_cases hlt : i < L
    · have hib : (i : Int) < (L : Int) := by omega
      have hib0 : (0 : Int) ≤ (i : Int) := by omega
      have hic : (i : Int) ≤ (sc : Int) := by omega
      obtain ⟨b, off, rfl, hcs⟩ := (slz_below HS.out HG.out.2) i hlt
      have hcs : wr.cell? ⟨b, off + i, none⟩ = some (.int .i64 ((tt i : Nat) : Int)) := hcs
      obtain ⟨c0, c1⟩ := HG.out.1
      go_wp2
      refine quiet_tail 5 (by kernel_rfl) (by kernel_rfl) ?_
      simp only [List.take_succ_cons, List.take_zero, List.drop_succ_cons, List.drop_zero]
      repeat (go_big_quiet_step (fail))
      refine wpQuiet_nil ?_
      intro _ hw'
      obtain ⟨nq, hw''⟩ := hw'
      subst hw''
      go_wp2_with fail
      refine (HT.out i _ hlt (below_drewN2 HG.out.2 nq)).mono ?_
      rintro e w3 ⟨rfl, hb3⟩
      have H3 : Hid (NB w.heap.size (n : Nat) (.slice eo m ec) w3 ∧ Below w.heap.size w w3) := ⟨HG.out.1.keep (bel_up' (below_drewN2 (Below.refl wr.heap.size wr) nq) hb3), bel_up' (below_drewN2 HG.out.2 nq) hb3⟩
      have hcs3 := (slz_below HS.out H3.out.2) i hlt
      clear hb3 c0 c1 hcs
      obtain ⟨b', off', hbo, hcs⟩ := hcs3
      cases hbo
      have hcs : w3.cell? ⟨b, off + i, none⟩ = some (.int .i64 ((tt i : Nat) : Int)) := hcs
      have HC3 : Hid (∀ cc d, Calls Tryz.prog 27 #[.int .i64 (tt i : Nat), .slice (some ⟨b, off, none⟩) i cc] (w3.drewN d) fun e w' => e = .returned (.bool false) ∧ ∃ n, w' = (w3.drewN d).drewN n) := fun cc d => by
        have h9 := in_any (tt i : Nat) (slz_slI (cap := cc) ((slz_below HS.out (below_drewN2 H3.out.2 d)).less (show i ≤ L by omega)) (by omega))
        rw [decide_eq_false (HTT.out i hlt).2] at h9
        exact h9
      go_wp2
      go_quiet ((go_at_call 27; exact Calls.quiet_of (HC3.out _ _)))
      go_wp2
      go_roundw
      case rel => exact ⟨i + 1, by omega, by go_num, ⟨H3.out.1.c0, H3.out.1.c1⟩, below_drewN2 H3.out.2 _⟩
      case measure => simp [RowKit.intOf]; omega
    · have e1 : i = L := by omega
      subst e1
      go_wp2
      go_loopw [12] (fun vi wx => ∃ (j : Nat), j ≤ i ∧ vi = .int .i64 j ∧ Hid (ctLs n m h F T tt j = false ∧ NB w.heap.size (n : Nat) (.slice eo m ec) wx ∧ Below w.heap.size w wx)) (fun vi _ => i - (RowKit.intOf vi).toNat)
      case atStart => exact ⟨0, by omega, rfl, rfl, HG.out⟩
      case round =>
        obtain ⟨j, hj, rfl, HI⟩ := hrel
        rename World => wx
        by_cases hlj : j < i
        · have hib : (j : Int) < (i : Int) := by omega
          have hib0 : (0 : Int) ≤ (j : Int) := by omega
          obtain ⟨b, off, rfl, hcs⟩ := (slz_below HS.out HI.out.2.2) j hlj
          have hcs : wx.cell? ⟨b, off + j, none⟩ = some (.int .i64 ((tt j : Nat) : Int)) := hcs
          obtain ⟨c0, c1⟩ := HI.out.2.1
          have HK5 : Hid (∀ wy, Below wx.heap.size wx wy → (fun wy : World => wy.cell? ⟨w.heap.size, 0, none⟩ = some (.int .i64 (n : Nat)) ∧ wy.cell? ⟨w.heap.size, 1, none⟩ = some (.slice eo m ec) ∧ wy.cell? ⟨b, off + j, none⟩ = some (.int .i64 ((tt j : Nat) : Int))) wy) := fun wy hy => ⟨((bcell hy).1 _ _ (cell_lt c0)).trans c0, ((bcell hy).1 _ _ (cell_lt c1)).trans c1, ((bcell hy).1 _ _ (cell_lt hcs)).trans hcs⟩
          go_wp2
          clear c0 c1 hcs
          have hS0 := HK5.out _ (Below.refl wx.heap.size wx).drew
          refine wp_region_noPanic ?_
          refine wp_region_X (S := (fun wy : World => wy.cell? ⟨w.heap.size, 0, none⟩ = some (.int .i64 (n : Nat)) ∧ wy.cell? ⟨w.heap.size, 1, none⟩ = some (.slice eo m ec) ∧ wy.cell? ⟨b, off + j, none⟩ = some (.int .i64 ((tt j : Nat) : Int)))) 10 (by kernel_rfl) ?_
          refine wpAnyX_take (i := 0) (v := ?_) (by rw [List.getElem?_toArray]; rfl) (by kernel_rfl) (by kernel_rfl) (by kernel_rfl) (by kernel_rfl) (fun _ _ _ h => h) hS0 (Or.inl ⟨by rfl, ?_⟩) ?_
          rotate_left
          · intro wz hSz; obtain ⟨z0, z1, z2⟩ := hSz; go_simp; first | done | with_reducible rfl
          try simp only [Act.put, List.setIfInBounds_toArray, List.set_cons_zero, List.set_cons_succ]
          refine wpAnyX_take (i := 1) (v := ?_) (by rw [List.getElem?_toArray]; rfl) (by kernel_rfl) (by kernel_rfl) (by kernel_rfl) (by kernel_rfl) (fun _ _ _ h => h) hS0 (Or.inl ⟨by rfl, ?_⟩) ?_
          rotate_left
          · intro wz hSz; obtain ⟨z0, z1, z2⟩ := hSz; go_simp; first | done | with_reducible rfl
          try simp only [Act.put, List.setIfInBounds_toArray, List.set_cons_zero, List.set_cons_succ]
          refine wpAnyX_take (i := 2) (v := ?_) (by rw [List.getElem?_toArray]; rfl) (by kernel_rfl) (by kernel_rfl) (by kernel_rfl) (by kernel_rfl) (fun _ _ _ h => h) hS0 (Or.inl ⟨by rfl, ?_⟩) ?_
          rotate_left
          · intro wz hSz; obtain ⟨z0, z1, z2⟩ := hSz; go_simp; first | done | with_reducible rfl
          try simp only [Act.put, List.setIfInBounds_toArray, List.set_cons_zero, List.set_cons_succ]
          refine wpAnyX_take (i := 3) (v := ?_) (by rw [List.getElem?_toArray]; rfl) (by kernel_rfl) (by kernel_rfl) (by kernel_rfl) (by kernel_rfl) (fun _ _ _ h => h) hS0 (Or.inl ⟨by rfl, ?_⟩) ?_
          rotate_left
          · intro wz hSz; obtain ⟨z0, z1, z2⟩ := hSz; go_simp; first | done | with_reducible rfl
          try simp only [Act.put, List.setIfInBounds_toArray, List.set_cons_zero, List.set_cons_succ]
          refine wpAnyX_take (i := 4) (v := ?_) (by rw [List.getElem?_toArray]; rfl) (by kernel_rfl) (by kernel_rfl) (by kernel_rfl) (by kernel_rfl) (fun _ _ _ h => h) hS0 (Or.inl ⟨by rfl, ?_⟩) ?_
          rotate_left
          · intro wz hSz; obtain ⟨z0, z1, z2⟩ := hSz; go_simp; first | done | with_reducible rfl
          try simp only [Act.put, List.setIfInBounds_toArray, List.set_cons_zero, List.set_cons_succ]
          refine wpAnyX_one (i := 5) (by kernel_rfl) (by rw [List.getElem?_toArray]; rfl) (fun KK hK => ?_)
          have HK : Hid _ := hK
          clear hK
          go_simp
          refine (HCu.out j _ hlj (HI.out.2.2.drew)).mono ?_
          rintro e w3 ⟨v, rfl, hb3⟩
          obtain ⟨cu, hcu⟩ : ∃ cu, cu = (cuB m F T (tt j) (2 ^ (n - 1))).1 := ⟨_, rfl⟩
          have hbx : Below wx.heap.size wx w3 := bel_up' (Below.refl wx.heap.size wx).drew hb3
          have H3 : Hid (NB w.heap.size (n : Nat) (.slice eo m ec) w3 ∧ Below w.heap.size w w3 ∧ cu = (cuB m F T (tt j) (2 ^ (n - 1))).1 ∧ Below wx.heap.size wx w3) := ⟨HI.out.2.1.keep hbx, bel_up' HI.out.2.2 hbx, hcu, hbx⟩
          rw [← hcu]
          clear hb3 hcu hbx hS0
          refine HK.out _ _ (fun _ => HK5.out _ H3.out.2.2.2) ?_
          clear HK KK
          try simp only [Act.put, List.setIfInBounds_toArray, List.set_cons_zero, List.set_cons_succ]
          have hS0 := HK5.out _ H3.out.2.2.2
          refine wpAnyX_take (i := 6) (v := ?_) (by rw [List.getElem?_toArray]; rfl) (by kernel_rfl) (by kernel_rfl) (by kernel_rfl) (by kernel_rfl) (fun _ _ _ h => h) hS0 (Or.inl ⟨by rfl, ?_⟩) ?_
          rotate_left
          · intro wz hSz; obtain ⟨z0, z1, z2⟩ := hSz; go_simp; first | done | with_reducible rfl
          try simp only [Act.put, List.setIfInBounds_toArray, List.set_cons_zero, List.set_cons_succ]
          refine wpAnyX_take (i := 7) (v := ?_) (by rw [List.getElem?_toArray]; rfl) (by kernel_rfl) (by kernel_rfl) (by kernel_rfl) (by kernel_rfl) (fun _ _ _ h => h) hS0 (Or.inl ⟨by rfl, ?_⟩) ?_
          rotate_left
          · intro wz hSz; obtain ⟨z0, z1, z2⟩ := hSz; go_simp; first | done | with_reducible rfl
          try simp only [Act.put, List.setIfInBounds_toArray, List.set_cons_zero, List.set_cons_succ]
          refine wpAnyX_take (i := 8) (v := ?_) (by rw [List.getElem?_toArray]; rfl) (by kernel_rfl) (by kernel_rfl) (by kernel_rfl) (by kernel_rfl) (fun _ _ _ h => h) hS0 (Or.inl ⟨by rfl, ?_⟩) ?_
          rotate_left
          · intro wz hSz; obtain ⟨z0, z1, z2⟩ := hSz; go_simp; first | done | with_reducible rfl
          try simp only [Act.put, List.setIfInBounds_toArray, List.set_cons_zero, List.set_cons_succ]
          refine wpAnyX_one (i := 9) (by kernel_rfl) (by rw [List.getElem?_toArray]; rfl) (fun KK hK => ?_)
          have HK : Hid _ := hK
          clear hK
          go_simp
          refine HK.out _ _ (fun _ => hS0) ?_
          clear HK KK
          try simp only [Act.put, List.setIfInBounds_toArray, List.set_cons_zero, List.set_cons_succ]
          refine wpAnyX_one (i := 10) (by kernel_rfl) (by rw [List.getElem?_toArray]; rfl) (fun KK hK => ?_)
          have HK : Hid _ := hK
          clear hK
          go_simp
          refine HK.out _ _ (fun h => absurd rfl h) ?_
          clear HK KK
          try simp only [Act.put, List.setIfInBounds_toArray, List.set_cons_zero, List.set_cons_succ]
          refine wpAnyX_done (by kernel_rfl) (NoPanic.normal ?_)
          clear hS0
          by_cases hch : cu < h
          · have hchb : (cu : Int) < (h : Int) := by omega
            have HK : Hid (ctLs n m h F T tt i = true) := by
              have h1 : ctLs n m h F T tt (j + 1) = true := by
                show (ctLs n m h F T tt j || decide _) = true
                rw [← H3.out.2.2.1, decide_eq_true hch, Bool.or_true]
              have := ctLs_keep h1 (i - (j + 1))
              rw [show j + 1 + (i - (j + 1)) = i by omega] at this
              exact this
            go_wp2
            go_ret
            exact ⟨9, rfl, fun _ => rfl, fun c => (by rw [HK.out] at c; cases c), H3.out.2.1⟩
          · have hchb : ¬ (cu : Int) < (h : Int) := by omega
            have HK : Hid (ctLs n m h F T tt (j + 1) = false) := by
              show (ctLs n m h F T tt j || decide _) = false
              rw [← H3.out.2.2.1, decide_eq_false hch, HI.out.1]; rfl
            go_wp2
            go_roundw
            case rel => exact ⟨j + 1, by omega, by go_num, HK.out, H3.out.1, H3.out.2.1⟩
            case measure => simp [RowKit.intOf]; omega
        · have e2 : j = i := by omega
          subst e2
          go_wp2
          go_ret
          exact ⟨0, rfl, fun c => (by rw [HI.out.1] at c; cases c), fun _ => rfl, HI.out.2.2⟩
end Go.Proofs.YtbnkekeeceicaaaGreat

/- Nets: what spans h vectors that don't hang on each other has rank h; what is in a span adds nothing to its rank. No Go text here. -/
namespace Go.Proofs.YtbnkekeeceicaaaGreat

theorem bas_rank {D : FD} (F : Fld D) {h k : Nat} {R Lv : Nat → Nat → Nat} {p : Nat → Nat} (hR : RRE D h k R p) (hB : Bas D h Lv) (hS : ∀ j, j < h → Spn D (RowsOf k R) (Lv j)) : k = h := by
  have hall := nct_all hR.mono hR.lt
  by_cases c : 0 < nct k p h
  · have h1 := hB.inj (nul D R p k h 0) (nul_el F hR.el h 0) (fun j hj => dot_spn F (hS j hj) (fun v hv => by
      obtain ⟨i, hi, rfl⟩ := hv
      exact nul_orth F hR hi c)) (fcs k p h 0) (fcs_ok h 0 c).1
    rw [nul_one c c, if_pos rfl] at h1
    cases h1
  · omega
/-- One row more that is in the span: the rank is the same. -/
theorem rank_in {D : FD} (F : Fld D) {n k k' m : Nat} {M R R' : Nat → Nat → Nat} {p p' : Nat → Nat} (he : ∀ i, i < m + 1 → El D (M i)) (hR : RRE D n k R p) (hS : ∀ v, Spn D (RowsOf k R) v ↔ Spn D (RowsOf m M) v) (hR' : RRE D n k' R' p') (hS' : ∀ v, Spn D (RowsOf k' R') v ↔ Spn D (RowsOf (m + 1) M) v) (hin : Spn D (RowsOf m M) (M m)) : k = k' := by
  refine (rre_uniq F hR hR' (fun v => ?_)).1
  rw [hS v, hS' v]
  constructor
  · exact fun q => spn_le F (fun u hu => by
      obtain ⟨i, hi, rfl⟩ := hu
      exact spn_mem F (he i (by omega)) ⟨i, by omega, rfl⟩) q
  · exact fun q => spn_le F (fun u hu => by
      obtain ⟨i, hi, rfl⟩ := hu
      by_cases c : i = m
      · rw [c]; exact hin
      · exact spn_mem F (he i hi) ⟨i, by omega, rfl⟩) q
end Go.Proofs.YtbnkekeeceicaaaGreat
