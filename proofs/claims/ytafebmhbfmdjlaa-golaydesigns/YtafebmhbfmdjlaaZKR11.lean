/- Golay: GolayDesigns' walk (printed by make/kr11.py). -/
import Derived.Test.YtafebmhbfmdjlaaZKR10
namespace Go.Proofs.Ytafebmhbfmdjlaa
open Go.RowKit

set_option maxHeartbeats 2000000 in
theorem golayDesigns_heavy {ao : Option Addr} {m ca : Nat} (n t : Int) {w : World} (hH : Calls Try.prog 4 #[.slice ao m ca] w fun r w' => r = .returned (.bool true) ∧ w' = w) :
    Calls Try.prog 3 #[.int .i64 n, .slice ao m ca, .int .i64 t] w fun e w' => e = .returned (.bool true) ∧ Below w.heap.size w w' := by
  have HH : Hid (Calls Try.prog 4 #[.slice ao m ca] w fun r w' => r = .returned (.bool true) ∧ w' = w) := hH
  clear hH
  go_enter Try.func3, Try.ntmps3
  go_wp2_with fail
  refine HH.out.mono ?_
  rintro e w1 ⟨rfl, hw⟩
  have hw := hw.symm
  subst hw
  go_wp2
  go_ret
  exact ⟨rfl, Below.refl _ _⟩

set_option maxHeartbeats 16000000 in
set_option maxRecDepth 100000 in
theorem golayDesigns_light {ao : Option Addr} {m ca : Nat} {A : Nat → Option Addr} {N C : Nat → Nat} {Z : Nat → Nat → Int} (n t : Int) {w : World} (hM : MatZ ao m A N C Z w) (hm : m ≤ 6000) (hN : ∀ i, i < m → N i ≤ 6000) (hH : Calls Try.prog 4 #[.slice ao m ca] w fun r w' => r = .returned (.bool false) ∧ w' = w) :
    Calls Try.prog 3 #[.int .i64 n, .slice ao m ca, .int .i64 t] w fun e w' => e = .returned (.bool true) ∧ Below w.heap.size w w' := by
  have HM : Hid (MatZ ao m A N C Z w ∧ ∀ i, i < m → N i ≤ 6000) := ⟨hM, hN⟩
  have HH : Hid (Calls Try.prog 4 #[.slice ao m ca] w fun r w' => r = .returned (.bool false) ∧ w' = w) := hH
  have HBw : Hid (Below w.heap.size w w) := Below.refl _ _
  clear hM hN hH
  by_cases hl : n < 1 ∨ 64 < n ∨ 4096 < m
  · have HE : Hid (gde n m N Z t = 4) := if_pos hl
    by_cases h1 : n < 1
    · clear hl
      have HDs : Hid (∀ wx, Below w.heap.size w wx → Calls Try.prog 6 #[.int .i64 n, .slice ao m ca, .int .i64 t] wx fun e w' => e = .returned (.tuple #[.int .i64 0, .bool false, .int .i64 4]) ∧ Below wx.heap.size wx w') := fun wx hb => by
        have := design_err (ca := ca) n t (HM.out.1.below hb) hm HM.out.2 (by rw [HE.out]; decide)
        rw [HE.out] at this; exact this
      go_enter Try.func3, Try.ntmps3
      go_wp2_with fail
      refine HH.out.mono ?_
      rintro e w1 ⟨rfl, hw⟩
      have hw := hw.symm
      subst hw
      go_wp2
      go_loopw [7, 8, 9] (fun ve vi _ wr => ve = .int .i64 4 ∧ vi = .int .i64 0 ∧ wr = w) (fun _ _ _ _ => 0)
      case atStart => exact ⟨rfl, rfl, rfl⟩
      case round =>
        obtain ⟨rfl, rfl, hw⟩ := hrel
        have hw := hw.symm
        subst hw
        by_cases hm0 : 0 < m
        · have hm1 : (0 : Int) < (m : Int) := by omega
          go_wp2_with fail
          refine (HDs.out _ (by first | exact HBw.out | exact Below.refl _ _)).mono ?_
          rintro e wd ⟨rfl, hbd⟩
          have HBd : Hid (Below w.heap.size w wd) := hbd
          clear hbd
          go_wp2
          go_ret
          exact ⟨rfl, HBd.out⟩
        · have hm1 : ¬ (0 : Int) < (m : Int) := by omega
          go_wp2_with fail
          refine (HDs.out _ (by first | exact HBw.out | exact Below.refl _ _)).mono ?_
          rintro e wd ⟨rfl, hbd⟩
          have HBd : Hid (Below w.heap.size w wd) := hbd
          clear hbd
          go_wp2
          go_ret
          exact ⟨rfl, HBd.out⟩
    · by_cases h2 : 64 < n
      · have h3 : n > 64 := h2
        clear hl
        have HDs : Hid (∀ wx, Below w.heap.size w wx → Calls Try.prog 6 #[.int .i64 n, .slice ao m ca, .int .i64 t] wx fun e w' => e = .returned (.tuple #[.int .i64 0, .bool false, .int .i64 4]) ∧ Below wx.heap.size wx w') := fun wx hb => by
          have := design_err (ca := ca) n t (HM.out.1.below hb) hm HM.out.2 (by rw [HE.out]; decide)
          rw [HE.out] at this; exact this
        go_enter Try.func3, Try.ntmps3
        go_wp2_with fail
        refine HH.out.mono ?_
        rintro e w1 ⟨rfl, hw⟩
        have hw := hw.symm
        subst hw
        go_wp2
        go_loopw [7, 8, 9] (fun ve vi _ wr => ve = .int .i64 4 ∧ vi = .int .i64 0 ∧ wr = w) (fun _ _ _ _ => 0)
        case atStart => exact ⟨rfl, rfl, rfl⟩
        case round =>
          obtain ⟨rfl, rfl, hw⟩ := hrel
          have hw := hw.symm
          subst hw
          by_cases hm0 : 0 < m
          · have hm1 : (0 : Int) < (m : Int) := by omega
            go_wp2_with fail
            refine (HDs.out _ (by first | exact HBw.out | exact Below.refl _ _)).mono ?_
            rintro e wd ⟨rfl, hbd⟩
            have HBd : Hid (Below w.heap.size w wd) := hbd
            clear hbd
            go_wp2
            go_ret
            exact ⟨rfl, HBd.out⟩
          · have hm1 : ¬ (0 : Int) < (m : Int) := by omega
            go_wp2_with fail
            refine (HDs.out _ (by first | exact HBw.out | exact Below.refl _ _)).mono ?_
            rintro e wd ⟨rfl, hbd⟩
            have HBd : Hid (Below w.heap.size w wd) := hbd
            clear hbd
            go_wp2
            go_ret
            exact ⟨rfl, HBd.out⟩
      · have h4 : (4096 : Int) < (m : Int) := by omega
        clear hl
        have HDs : Hid (∀ wx, Below w.heap.size w wx → Calls Try.prog 6 #[.int .i64 n, .slice ao m ca, .int .i64 t] wx fun e w' => e = .returned (.tuple #[.int .i64 0, .bool false, .int .i64 4]) ∧ Below wx.heap.size wx w') := fun wx hb => by
          have := design_err (ca := ca) n t (HM.out.1.below hb) hm HM.out.2 (by rw [HE.out]; decide)
          rw [HE.out] at this; exact this
        go_enter Try.func3, Try.ntmps3
        go_wp2_with fail
        refine HH.out.mono ?_
        rintro e w1 ⟨rfl, hw⟩
        have hw := hw.symm
        subst hw
        go_wp2
        go_loopw [7, 8, 9] (fun ve vi _ wr => ve = .int .i64 4 ∧ vi = .int .i64 0 ∧ wr = w) (fun _ _ _ _ => 0)
        case atStart => exact ⟨rfl, rfl, rfl⟩
        case round =>
          obtain ⟨rfl, rfl, hw⟩ := hrel
          have hw := hw.symm
          subst hw
          by_cases hm0 : 0 < m
          · have hm1 : (0 : Int) < (m : Int) := by omega
            go_wp2_with fail
            refine (HDs.out _ (by first | exact HBw.out | exact Below.refl _ _)).mono ?_
            rintro e wd ⟨rfl, hbd⟩
            have HBd : Hid (Below w.heap.size w wd) := hbd
            clear hbd
            go_wp2
            go_ret
            exact ⟨rfl, HBd.out⟩
          · have hm1 : ¬ (0 : Int) < (m : Int) := by omega
            go_wp2_with fail
            refine (HDs.out _ (by first | exact HBw.out | exact Below.refl _ _)).mono ?_
            rintro e wd ⟨rfl, hbd⟩
            have HBd : Hid (Below w.heap.size w wd) := hbd
            clear hbd
            go_wp2
            go_ret
            exact ⟨rfl, HBd.out⟩
  · obtain ⟨nn, hnn⟩ : ∃ nn : Nat, n = (nn : Int) := ⟨n.toNat, by omega⟩
    have h1 : ¬ n < 1 := by omega
    have h2 : ¬ 64 < n := by omega
    have h4 : ¬ (4096 : Int) < (m : Int) := by omega
    have HD : Hid (gde n m N Z t = if gpl n N Z m = true then 10 else if t < 0 ∨ n < t then 6 else sme n.toNat t.toNat) := if_neg hl
    have HNN : Hid (n = (nn : Int) ∧ nn ≤ 64) := ⟨hnn, by omega⟩
    clear hl hnn
    go_enter Try.func3, Try.ntmps3
    go_wp2_with fail
    refine HH.out.mono ?_
    rintro e w1 ⟨rfl, hw⟩
    have hw := hw.symm
    subst hw
    go_wp2
    go_loopw [7, 8] (fun ve vi wr => ∃ i : Nat, vi = .int .i64 (i : Nat) ∧ i ≤ m ∧ wr = w ∧ ((ve = .int .i64 0 ∧ Hid (gpl n N Z i = false)) ∨ (ve = .int .i64 10 ∧ Hid (gpl n N Z m = true)))) (fun _ vi _ => m - (intOf vi).toNat)
    case atStart => exact ⟨0, rfl, by omega, rfl, Or.inl ⟨rfl, rfl⟩⟩
    case round =>
      obtain ⟨i, rfl, hi, hw, hve⟩ := hrel
      have hw := hw.symm
      subst hw
      rcases hve with ⟨rfl, HS⟩ | ⟨rfl, HS⟩
      · by_cases hlt : i < m
        · have hib : (i : Int) < (m : Int) := by omega
          obtain ⟨b, off, e1, hcell⟩ := HM.out.1.cell i hlt
          subst e1
          have hNi := HM.out.2 i hlt
          obtain ⟨k, hk⟩ : ∃ k, k = N i := ⟨_, rfl⟩
          rw [← hk] at hcell hNi
          have HK : Hid (k = N i) := hk
          clear hk
          go_wp2
          go_loopw [7, 9] (fun ve vj wq => ∃ j : Nat, vj = .int .i64 (j : Nat) ∧ j ≤ k ∧ wq = w ∧ ((ve = .int .i64 0 ∧ Hid (anG (fun j => decide (Z i j < 0) || decide (n ≤ Z i j)) j = false)) ∨ (ve = .int .i64 10 ∧ Hid (gpl n N Z m = true)))) (fun _ vj _ => k - (intOf vj).toNat)
          case atStart => exact ⟨0, rfl, by omega, rfl, Or.inl ⟨rfl, rfl⟩⟩
          case round =>
            obtain ⟨j, rfl, hj, hw, hve⟩ := hrel
            have hw := hw.symm
            subst hw
            rcases hve with ⟨rfl, HJ⟩ | ⟨rfl, HJ⟩
            · by_cases hjl : j < k
              · have hjb : (j : Int) < (k : Int) := by omega
                obtain ⟨b2, off2, e2, hc2⟩ := HM.out.1.sl i hlt j (by rw [← HK.out]; exact hjl)
                obtain ⟨z, hz⟩ : ∃ z, z = Z i j := ⟨_, rfl⟩
                rw [← hz] at hc2
                rw [e2] at hcell
                by_cases hbad : z < 0 ∨ n ≤ z
                · have HB : Hid (gpl n N Z m = true) := by
                    refine anG_yes (j := i) ?_ m hlt
                    refine anG_yes (j := j) ?_ _ (by rw [← HK.out]; exact hjl)
                    rw [← hz]
                    simpa using hbad
                  by_cases h0 : z < 0
                  · clear hz hbad HJ
                    go_wp2
                    go_roundw
                    case rel => exact ⟨j + 1, by go_num, by omega, by first | rfl | trivial, Or.inr ⟨rfl, HB⟩⟩
                    case measure => simp [intOf]; omega
                  · have hnz : n ≤ z := by omega
                    clear hz hbad HJ
                    go_wp2
                    go_roundw
                    case rel => exact ⟨j + 1, by go_num, by omega, by first | rfl | trivial, Or.inr ⟨rfl, HB⟩⟩
                    case measure => simp [intOf]; omega
                · have h0 : ¬ z < 0 := by omega
                  have hnz : ¬ n ≤ z := by omega
                  have HN2 : Hid (anG (fun j => decide (Z i j < 0) || decide (n ≤ Z i j)) (j + 1) = false) := by
                    show (anG (fun j => decide (Z i j < 0) || decide (n ≤ Z i j)) j || (decide (Z i j < 0) || decide (n ≤ Z i j))) = false
                    rw [HJ.out, ← hz, decide_eq_false h0, decide_eq_false hnz]; rfl
                  clear hz hbad HJ
                  go_wp2
                  go_roundw
                  case rel => exact ⟨j + 1, by go_num, by omega, by first | rfl | trivial, Or.inl ⟨rfl, HN2⟩⟩
                  case measure => simp [intOf]; omega
              · have hjb : ¬ (j : Int) < (k : Int) := by omega
                have HN2 : Hid (gpl n N Z (i + 1) = false) := by
                  show (gpl n N Z i || gbr n N Z i) = false
                  rw [HS.out, Bool.false_or]
                  unfold gbr
                  rw [← HK.out, show k = j by omega]
                  exact HJ.out
                clear HJ
                go_wp2
                go_roundw
                case rel => exact ⟨i + 1, by go_num, by omega, by first | rfl | trivial, Or.inl ⟨rfl, HN2⟩⟩
                case measure => simp [intOf]; omega
            · have hj2 : j < k ∨ ¬ j < k := Classical.em _
              rcases hj2 with hjl | hjl
              · have hjb : (j : Int) < (k : Int) := by omega
                go_wp2
                go_roundw
                case rel => exact ⟨i + 1, by go_num, by omega, by first | rfl | trivial, Or.inr ⟨rfl, HJ⟩⟩
                case measure => simp [intOf]; omega
              · have hjb : ¬ (j : Int) < (k : Int) := by omega
                go_wp2
                go_roundw
                case rel => exact ⟨i + 1, by go_num, by omega, by first | rfl | trivial, Or.inr ⟨rfl, HJ⟩⟩
                case measure => simp [intOf]; omega
        · have hib : ¬ (i : Int) < (m : Int) := by omega
          have hie : i = m := by omega
          subst hie
          have HE0 : Hid (gde n i N Z t = if t < 0 ∨ n < t then 6 else sme n.toNat t.toNat) := by
            show gde n i N Z t = _
            rw [HD.out, HS.out]; rfl
          have HP : Hid (gpl n N Z i = false) := HS
          clear HD
          by_cases ht : t < 0 ∨ n < t
          · have HE : Hid (gde n i N Z t = 6) := by show _ = _; rw [HE0.out, if_pos ht]
            by_cases h0 : t < 0
            · clear ht
              go_wp2_with fail
              have HDs : Hid (∀ wx, Below w.heap.size w wx → Calls Try.prog 6 #[.int .i64 n, .slice ao i ca, .int .i64 t] wx fun e w' => e = .returned (.tuple #[.int .i64 0, .bool false, .int .i64 6]) ∧ Below wx.heap.size wx w') := fun wx hb => by
                have := design_err (ca := ca) n t (HM.out.1.below hb) hm HM.out.2 (by rw [HE.out]; decide)
                rw [HE.out] at this; exact this
              refine (HDs.out _ HBw.out).mono ?_
              rintro e wd ⟨rfl, hbd⟩
              have HBd : Hid (Below w.heap.size w wd) := bel_up' HBw.out hbd
              clear hbd
              go_wp2
              go_ret
              exact ⟨rfl, HBd.out⟩
            · have hnt : n < t := by omega
              clear ht
              go_wp2_with fail
              have HDs : Hid (∀ wx, Below w.heap.size w wx → Calls Try.prog 6 #[.int .i64 n, .slice ao i ca, .int .i64 t] wx fun e w' => e = .returned (.tuple #[.int .i64 0, .bool false, .int .i64 6]) ∧ Below wx.heap.size wx w') := fun wx hb => by
                have := design_err (ca := ca) n t (HM.out.1.below hb) hm HM.out.2 (by rw [HE.out]; decide)
                rw [HE.out] at this; exact this
              refine (HDs.out _ HBw.out).mono ?_
              rintro e wd ⟨rfl, hbd⟩
              have HBd : Hid (Below w.heap.size w wd) := bel_up' HBw.out hbd
              clear hbd
              go_wp2
              go_ret
              exact ⟨rfl, HBd.out⟩
          · have h0 : ¬ t < 0 := by omega
            have hnt : ¬ n < t := by omega
            obtain ⟨tt, htt⟩ : ∃ tt : Nat, t = (tt : Int) := ⟨t.toNat, by omega⟩
            have htn : tt ≤ nn := by have := HNN.out; omega
            have HSm : Hid (∀ wx, Calls Try.prog 5 #[.int .i64 n, .int .i64 t] wx fun e w' => e = .returned (.bool (smB nn tt)) ∧ Below wx.heap.size wx w') := fun wx => by
              rw [htt, HNN.out.1]; exact setsMay_any HNN.out.2 htn wx
            have HT : Hid (t = (tt : Int) ∧ sme n.toNat t.toNat = sme nn tt) := ⟨htt, by rw [htt, HNN.out.1]; rfl⟩
            clear htt ht
            cases hsm : smB nn tt with
            | false =>
              have HE : Hid (gde n i N Z t = 4) := by
                show _ = _
                rw [HE0.out, if_neg (by omega), HT.out.2]
                exact if_neg (by rw [hsm]; simp)
              rw [hsm] at HSm
              clear hsm
              go_wp2_with fail
              refine (HSm.out _).mono ?_
              rintro e wb ⟨rfl, hbb⟩
              have HBw : Hid (Below w.heap.size w wb) := hbb
              clear hbb
              go_wp2_with fail
              have HDs : Hid (∀ wx, Below w.heap.size w wx → Calls Try.prog 6 #[.int .i64 n, .slice ao i ca, .int .i64 t] wx fun e w' => e = .returned (.tuple #[.int .i64 0, .bool false, .int .i64 4]) ∧ Below wx.heap.size wx w') := fun wx hb => by
                have := design_err (ca := ca) n t (HM.out.1.below hb) hm HM.out.2 (by rw [HE.out]; decide)
                rw [HE.out] at this; exact this
              refine (HDs.out _ HBw.out).mono ?_
              rintro e wd ⟨rfl, hbd⟩
              have HBd : Hid (Below w.heap.size w wd) := bel_up' HBw.out hbd
              clear hbd
              go_wp2
              go_ret
              exact ⟨rfl, HBd.out⟩
            | true =>
              have HE : Hid (gde n i N Z t = 0) := by
                show _ = _
                rw [HE0.out, if_neg (by omega), HT.out.2]
                exact if_pos hsm
              rw [hsm] at HSm
              clear hsm
              have HDs : Hid (∀ wx, Below w.heap.size w wx → Calls Try.prog 6 #[.int .i64 n, .slice ao i ca, .int .i64 t] wx fun e w' => DgP (fun s => lic (bkf N Z) s i) (sls nn tt 0 0) e ∧ Below wx.heap.size wx w') := fun wx hb => by
                have e1 := HNN.out.1
                have e2 := HT.out.1
                have h5 := HE.out
                have h6 := HP.out
                rw [e1, e2] at h5
                rw [e1] at h6
                rw [e1, e2]
                exact design_ok (HM.out.1.below hb) hm HM.out.2 HNN.out.2 htn h6 h5
              have HDo : Hid (∀ wx, Below w.heap.size w wx → Calls Try.prog 7 #[.int .i64 n, .slice ao i ca, .int .i64 t] wx fun e w' => DoP (fun s => lic (bkf N Z) s i) (sls nn tt 0 0) e ∧ Below wx.heap.size wx w') := fun wx hb => by
                have e1 := HNN.out.1
                have e2 := HT.out.1
                have h6 := HP.out
                rw [e1] at h6
                rw [e1, e2]
                exact designOf_any (HM.out.1.below hb) hm HM.out.2 HNN.out.2 htn h6
              go_wp2_with fail
              refine (HSm.out _).mono ?_
              rintro e wb ⟨rfl, hbb⟩
              have HBw : Hid (Below w.heap.size w wb) := hbb
              clear hbb
              go_wp2_with fail
              refine (HDs.out _ HBw.out).mono ?_
              rintro e wd ⟨hdg, hbd⟩
              have HBd : Hid (Below w.heap.size w wd) := bel_up' HBw.out hbd
              clear hbd
              rcases hdg with ⟨k1, hk1, rfl⟩ | ⟨hk1, rfl⟩
              · have HK1 : Hid (dsr (fun s => lic (bkf N Z) s i) (sls nn tt 0 0) (-1) = some k1) := hk1
                clear hk1
                go_wp2_with fail
                refine (HDo.out _ HBd.out).mono ?_
                rintro e wf ⟨hdo, hbf⟩
                have HBf : Hid (Below w.heap.size w wf) := bel_up' HBd.out hbf
                clear hbf
                rcases hdo with ⟨k2, hk2, rfl⟩ | ⟨hk2, rfl⟩
                · have : k1 = k2 := by rw [HK1.out] at hk2; cases hk2; rfl
                  subst this
                  clear hk2
                  go_wp2
                  go_ret
                  exact ⟨by first | rfl | simp, HBf.out⟩
                · rw [HK1.out] at hk2; cases hk2
              · have HK1 : Hid (dsr (fun s => lic (bkf N Z) s i) (sls nn tt 0 0) (-1) = none) := hk1
                clear hk1
                go_wp2_with fail
                refine (HDo.out _ HBd.out).mono ?_
                rintro e wf ⟨hdo, hbf⟩
                have HBf : Hid (Below w.heap.size w wf) := bel_up' HBd.out hbf
                clear hbf
                rcases hdo with ⟨k2, hk2, rfl⟩ | ⟨hk2, rfl⟩
                · rw [HK1.out] at hk2; cases hk2
                · clear hk2
                  go_wp2
                  go_ret
                  exact ⟨by first | rfl | simp, HBf.out⟩
      · have HE : Hid (gde n m N Z t = 10) := by show _ = _; rw [HD.out, if_pos HS.out]
        by_cases hlt : i < m
        · have hib : (i : Int) < (m : Int) := by omega
          go_wp2_with fail
          have HDs : Hid (∀ wx, Below w.heap.size w wx → Calls Try.prog 6 #[.int .i64 n, .slice ao m ca, .int .i64 t] wx fun e w' => e = .returned (.tuple #[.int .i64 0, .bool false, .int .i64 10]) ∧ Below wx.heap.size wx w') := fun wx hb => by
            have := design_err (ca := ca) n t (HM.out.1.below hb) hm HM.out.2 (by rw [HE.out]; decide)
            rw [HE.out] at this; exact this
          refine (HDs.out _ HBw.out).mono ?_
          rintro e wd ⟨rfl, hbd⟩
          have HBd : Hid (Below w.heap.size w wd) := bel_up' HBw.out hbd
          clear hbd
          go_wp2
          go_ret
          exact ⟨rfl, HBd.out⟩
        · have hib : ¬ (i : Int) < (m : Int) := by omega
          go_wp2_with fail
          have HDs : Hid (∀ wx, Below w.heap.size w wx → Calls Try.prog 6 #[.int .i64 n, .slice ao m ca, .int .i64 t] wx fun e w' => e = .returned (.tuple #[.int .i64 0, .bool false, .int .i64 10]) ∧ Below wx.heap.size wx w') := fun wx hb => by
            have := design_err (ca := ca) n t (HM.out.1.below hb) hm HM.out.2 (by rw [HE.out]; decide)
            rw [HE.out] at this; exact this
          refine (HDs.out _ HBw.out).mono ?_
          rintro e wd ⟨rfl, hbd⟩
          have HBd : Hid (Below w.heap.size w wd) := bel_up' HBw.out hbd
          clear hbd
          go_wp2
          go_ret
          exact ⟨rfl, HBd.out⟩

theorem golayDesigns_walk {ao : Option Addr} {m ca : Nat} {A : Nat → Option Addr} {N C : Nat → Nat} {Z : Nat → Nat → Int} (n t : Int) {w : World} (hA : MatO ao m A N C Z w) (hm : m ≤ 17592186044416) (hN : ∀ i, i < m → N i ≤ 17592186044416) :
    Calls Try.prog 3 #[.int .i64 n, .slice ao m ca, .int .i64 t] w fun e w' => e = .returned (.bool true) ∧ Below w.heap.size w w' := by
  have hH := heavy_any (ca := ca) hA.cell hm hN
  by_cases hv : 6000 < hvs N m m
  · rw [decide_eq_true hv] at hH
    exact golayDesigns_heavy n t hH
  · rw [decide_eq_false hv] at hH
    have hf := hvs_few m (show hvs N m m ≤ 6000 by omega)
    exact golayDesigns_light n t (hA.matZ (fun i hi => by have := hf.2 i hi; omega)) hf.1 hf.2 hH
end Go.Proofs.Ytafebmhbfmdjlaa
