/- Texts of ours, one behind the other: KM27 KM28. -/
import Derived.Test.YtbofcldmgjeklaaZKM26
import Derived.Test.YtbofcldmgjeklaaZX17
import Derived.Test.YtbofcldmgjeklaaZO3
import Derived.Test.YtbofcldmgjeklaaZS48
import Derived.Test.YtbofcldmgjeklaaZL10
import Derived.Test.YtbofcldmgjeklaaZW15
/- StoreSays: whatever it is given (the walk). -/
namespace Go.Proofs.Ytbofcldmgjeklaa
open Go.RowKit Go.Sort

theorem Mx.llsN {B G k n : Nat} {R : Nat → Nat → Nat} {h : Nat → Nat} {w : World} (H : Mx B G k k (n + 1) R h w) (hm : k ≤ 1000000) (hn : n + 1 ≤ 1000000) : LLs B (.slice (some ⟨G, 0, none⟩) k k) (Go.Proofs.Ytbofcldmgjeklaa.rl k n R) w := by
  refine ⟨_, H.ownV hm, by rw [vl_len, rl_len], fun j v p hv hp => ?_⟩
  have hj : j < k := by
    have := (List.getElem?_eq_some_iff.1 hv).1
    rwa [vl_len] at this
  rw [vl_get k _ j hj] at hv
  rw [rl_get k n R j hj] at hp
  cases hv
  cases hp
  exact ⟨h j, n + 1, rfl, Nat.le_refl _, by omega, H.row j hj⟩

set_option maxHeartbeats 8000000 in
set_option maxRecDepth 100000 in
theorem storeSays_long (q n k d lost : Int) {fo ao ho bo : Option Addr} {nf fc m ca hm hc m' cb : Nat} {w : World} (hnf : nf ≤ 17592186044416) (hm1 : m ≤ 17592186044416) (hm2 : m' ≤ 17592186044416) (hlen : 300 < nf + m + m') :
    Calls Try.prog 3 #[.int .i64 q, .int .i64 n, .int .i64 k, .int .i64 d, .slice fo nf fc, .slice ao m ca, .slice ho hm hc, .int .i64 lost, .slice bo m' cb] w fun e w' => e = .returned (.bool true) ∧ Below w.heap.size w w' := by
  have h1 : (300 : Int) < (nf : Int) + (m : Int) + (m' : Int) := by omega
  go_enter Try.func3, Try.ntmps3
  go_wp2
  go_ret
  exact ⟨rfl, Below.refl _ _⟩

set_option maxHeartbeats 8000000 in
set_option maxRecDepth 100000 in
theorem storeSays_walk (q n k d lost : Int) {fo ao ho bo : Option Addr} {nf fc m ca hm hc m' cb : Nat} {zf z h : Nat → Int} {A : Nat → Option Addr} {N C : Nat → Nat} {Z : Nat → Nat → Int} {w : World} (hFl : ArgL fo nf fc zf w) (hnf : nf ≤ 17592186044416) (hA : ArgL ao m ca z w) (hm1 : m ≤ 17592186044416) (hH : MatO ho hm A N C Z w) (hhm : hm ≤ 17592186044416) (hN : ∀ i, i < hm → N i ≤ 17592186044416) (hB : ArgL bo m' cb h w) (hm2 : m' ≤ 17592186044416) :
    Calls Try.prog 3 #[.int .i64 q, .int .i64 n, .int .i64 k, .int .i64 d, .slice fo nf fc, .slice ao m ca, .slice ho hm hc, .int .i64 lost, .slice bo m' cb] w fun e w' => e = .returned (.bool true) ∧ Below w.heap.size w w' := by
  by_cases hlen : 300 < nf + m + m'
  · exact storeSays_long q n k d lost hnf hm1 hm2 hlen
  · have h1 : ¬ (300 : Int) < (nf : Int) + (m : Int) + (m' : Int) := by omega
    have hfew : nf ≤ 300 ∧ m ≤ 300 ∧ m' ≤ 300 := by omega
    obtain ⟨t, ht⟩ : ∃ t, t = decide (6000 < hvs N hm hm) := ⟨_, rfl⟩
    have HHv : Hid (Calls Try.prog 7 #[.slice ho hm hc] w fun r w' => r = .returned (.bool t) ∧ w' = w) := by rw [ht]; exact heavy_any (A := A) (C := C) (fun i hi => hH.cell i hi) hhm hN
    have HF : Hid (Arg fo nf fc zf w ∧ Arg ao m ca z w ∧ Arg bo m' cb h w) := ⟨hFl.arg (by omega), hA.arg (by omega), hB.arg (by omega)⟩
    have HZ : Hid (t = false → MatZ ho hm A N C Z w ∧ hm ≤ 6000) := fun hf => by
      rw [ht, decide_eq_false_iff_not] at hf
      obtain ⟨h1, h2⟩ := hvs_few hm (Nat.le_of_not_lt hf)
      exact ⟨hH.matZ (fun i hi => by have := h2 i hi; omega), h1⟩
    clear hFl hA hH hB hN ht hlen hnf hm1 hm2 hhm
    obtain ⟨hf1, hf2, hf3⟩ := hfew
    go_enter Try.func3, Try.ntmps3
    go_wp2_with fail
    refine HHv.out.mono ?_
    rintro e w' ⟨rfl, hw⟩
    have hw := hw.symm
    subst hw
    cases t with
    | true =>
      go_wp2
      go_ret
      exact ⟨rfl, Below.refl _ _⟩
    | false =>
      have HZ2 : Hid (MatZ ho hm A N C Z w ∧ hm ≤ 6000) := HZ.out rfl
      clear HZ HHv
      by_cases hq : ∃ D ∈ fieldsL, (D.q : Int) = q
      · obtain ⟨D, hD, rfl⟩ := hq
        have HD : Hid (D ∈ fieldsL) := hD
        clear hD
        obtain ⟨E, hE⟩ : ∃ E, E = D.plc n k d := ⟨_, rfl⟩
        have HPm : Hid (Calls Try.prog 8 #[.int .i64 D.q, .int .i64 n, .int .i64 k, .int .i64 d] w fun e w' => e = .returned (.int .i64 E) ∧ Below w.heap.size w w') := by rw [hE]; exact planMay_any HD.out n k d w
        have HE : Hid (E = D.plc n k d) := hE
        clear hE
        go_wp2_with fail
        refine HPm.out.mono ?_
        rintro e w1 ⟨rfl, hb1⟩
        have HB1 : Hid (Below w.heap.size w w1) := hb1
        clear hb1 HPm
        go_wp2_with fail
        refine (snew_any HD.out n k d w1).mono ?_
        rintro e w2 ⟨hb2, ⟨hne, rfl⟩ | ⟨hz, B, F, T, g, rfl, hP, hF, _⟩⟩
        · rw [← HE.out] at hne ⊢
          have hEz : (E != 0) = true := by rw [bne_iff_ne]; exact hne
          have HB2 : Hid (Below w.heap.size w w2) := bel_up' HB1.out hb2
          clear hne hb2
          go_wp2
          go_ret
          exact ⟨rfl, HB2.out⟩
        · rw [← HE.out] at hz
          have HP : Hid (PlA B F n k d w2 ∧ FAt F T D g w2 ∧ Below w.heap.size w w2) := ⟨hP, hF, bel_up' HB1.out hb2⟩
          have hpl : ¬ (n < 2 ∨ 16 < n ∨ (D.q : Int) < n) ∧ ¬ (k < 1 ∨ d < k ∨ n ≤ d) := by
            have h := HE.out
            rw [hz] at h
            unfold FD.plc at h
            by_cases c1 : n < 2 ∨ 16 < n ∨ (D.q : Int) < n
            · rw [if_pos c1] at h; omega
            · rw [if_neg c1] at h
              by_cases c2 : k < 1 ∨ d < k ∨ n ≤ d
              · rw [if_pos c2] at h; omega
              · exact ⟨c1, c2⟩
          clear hP hF hb2
          obtain ⟨nn, hnn⟩ : ∃ nn : Nat, n = (nn : Int) := ⟨n.toNat, by omega⟩
          obtain ⟨kk, hkk⟩ : ∃ kk : Nat, k = (kk : Int) := ⟨k.toNat, by omega⟩
          obtain ⟨dd, hdd⟩ : ∃ dd : Nat, d = (dd : Int) := ⟨d.toNat, by omega⟩
          subst hnn
          subst hkk
          subst hdd
          have hb : nn ≤ 16 ∧ nn ≤ D.q ∧ 1 ≤ kk ∧ kk ≤ dd ∧ dd ≤ 15 ∧ 1 ≤ dd := by omega
          obtain ⟨b1, b2, b3, b4, b5, b6⟩ := hb
          clear hpl
          subst hz
          go_wp2_with fail
          refine (rfield_sl HD.out w2).mono ?_
          rintro e w3 ⟨gm, cm, rfl, hM, hb3⟩
          unfold rf
          obtain ⟨wb, hwb⟩ : ∃ wb, wb = w3.alloc (.cells #[.int .i64 D.q, .int .i64 D.p, .int .i64 D.m, .int .i64 D.gen, .slice (some ⟨gm, 0, none⟩) (D.m + 1) cm] 31) := ⟨_, rfl⟩
          have hbb : Below w3.heap.size w3 wb := by rw [hwb]; exact (Below.refl _ _).alloc (Nat.le_refl _) _
          have hbw : Below w.heap.size w wb := bel_up' (bel_up' HP.out.2.2 hb3) hbb
          have hb2b : Below w2.heap.size w2 wb := bel_up' hb3 hbb
          have HW : Hid (Box w3.heap.size D D.gen (.slice (some ⟨gm, 0, none⟩) (D.m + 1) cm) wb ∧ ModAt D (.slice (some ⟨gm, 0, none⟩) (D.m + 1) cm) D.md wb ∧ Below w.heap.size w wb ∧ PlA B F (nn : Nat) (kk : Nat) (dd : Nat) wb ∧ FAt F T D g wb ∧ Arg fo nf fc zf wb ∧ Arg ao m ca z wb ∧ Arg bo m' cb h wb ∧ MatZ ho hm A N C Z wb ∧ w3.heap.size < wb.heap.size) := ⟨by rw [hwb]; exact box_new D D.gen _ w3, hM.below hbb, hbw, HP.out.1.below hb2b, HP.out.2.1.below hb2b HP.out.2.1.ltF HP.out.2.1.ltT, HF.out.1.below hbw, HF.out.2.1.below hbw, HF.out.2.2.below hbw, HZ2.out.1.below hbw, by rw [hwb]; simp⟩
          have HBx : Hid (∀ wx, Below wb.heap.size wb wx → Box w3.heap.size D D.gen (.slice (some ⟨gm, 0, none⟩) (D.m + 1) cm) wx) := fun wx hb => HW.out.1.below (B := wb.heap.size) hb HW.out.2.2.2.2.2.2.2.2.2
          have HSz : Hid (Calls Try.prog 11 #[.pointer (some ⟨B, 0, none⟩)] wb fun e w' => e = .returned (.int .i64 (fsz kk dd : Nat)) ∧ ∃ j, w' = wb.drewN j) := psize_any HW.out.2.2.2.1 b4 b5
          clear hM hb3 hbb hbw hb2b
          go_wp2_with fail
          rw [← hwb]
          clear hwb
          refine HSz.out.mono ?_
          rintro e w4 ⟨rfl, j4, hw4⟩
          have HB4 : Hid (Below wb.heap.size wb w4) := by rw [hw4]; exact below_drewN2 (Below.refl _ _) j4
          clear hw4
          go_wp2_with fail
          refine (fileSize_any b4 b5 w4).mono ?_
          rintro e w' ⟨rfl, hw⟩
          have hw := hw.symm
          subst hw
          go_wp2_with fail
          refine (fileSize_any b4 b5 w4).mono ?_
          rintro e w' ⟨rfl, hw⟩
          have hw := hw.symm
          subst hw
          obtain ⟨S, hS⟩ : ∃ S, S = D.nchk nf zf (fsz kk dd : Nat) := ⟨_, rfl⟩
          have HS : Hid (S = if ((nf : Nat) : Int) ≠ (fsz kk dd : Nat) then 6 else if D.allHas zf nf = true then 0 else 2) := by show S = _; rw [hS, nchk_allHas]
          have HWr : Hid (∀ wx, Below wb.heap.size wb wx → Calls Try.prog 15 #[.pointer (some ⟨B, 0, none⟩), .slice fo nf fc] wx (WrP D nn kk dd nf zf wx)) := fun wx hb => swrite_any HD.out (HW.out.2.2.2.1.below hb) (HW.out.2.2.2.2.1.below hb HW.out.2.2.2.2.1.ltF HW.out.2.2.2.2.1.ltT) (HW.out.2.2.2.2.2.1.below hb) (by omega) b4 b5 b2 b1
          have HSe : Hid (S = D.nchk nf zf (fsz kk dd : Nat)) := hS
          have HRd : Hid (∀ wx, Below wb.heap.size wb wx → Calls Try.prog 17 #[.pointer (some ⟨B, 0, none⟩), .agg #[.int .i64 D.q, .int .i64 D.p, .int .i64 D.m, .int .i64 D.gen, .slice (some ⟨gm, 0, none⟩) (D.m + 1) cm], .int .i64 (nn : Nat), .int .i64 (kk : Nat), .int .i64 (dd : Nat), .slice ao m ca, .slice ho hm hc] wx fun e w' => e = .returned (.bool true) ∧ Below wx.heap.size wx w') := fun wx hb => storeReads_any HD.out D.gen gm cm (HW.out.2.2.2.1.below hb) (HW.out.2.2.2.2.1.below hb HW.out.2.2.2.2.1.ltF HW.out.2.2.2.2.1.ltT) (HW.out.2.1.below hb) (HW.out.2.2.2.2.2.2.1.below hb) (HW.out.2.2.2.2.2.2.2.2.1.below hb) (by omega) (by have := HZ2.out.2; omega) b3 b4 b5 b2
          have HMd : Hid (∀ wx, Below wb.heap.size wb wx → Calls Try.prog 18 #[.pointer (some ⟨B, 0, none⟩), .agg #[.int .i64 D.q, .int .i64 D.p, .int .i64 D.m, .int .i64 D.gen, .slice (some ⟨gm, 0, none⟩) (D.m + 1) cm], .int .i64 (nn : Nat), .int .i64 (dd : Nat), .slice ao m ca, .slice ho hm hc, .int .i64 lost, .slice bo m' cb] wx fun e w' => e = .returned (.bool true) ∧ Below wx.heap.size wx w') := fun wx hb => storeMends_any HD.out D.gen gm cm (HW.out.2.2.2.1.below hb) (HW.out.2.2.2.2.1.below hb HW.out.2.2.2.2.1.ltF HW.out.2.2.2.2.1.ltT) (HW.out.2.1.below hb) (HW.out.2.2.2.2.2.2.1.below hb) (HW.out.2.2.2.2.2.2.2.2.1.below hb) (HW.out.2.2.2.2.2.2.2.1.below hb) (by omega) (by omega) (by have := HZ2.out.2; omega) b6 b5 b2 lost
          clear hS
          have fin : ∀ wl, Below wb.heap.size wb wl → Below w.heap.size w wl := fun wl hb => bel_up' HW.out.2.2.1 hb
          have HFin : Hid (∀ wl, Below wb.heap.size wb wl → Below w.heap.size w wl) := fin
          clear fin
          by_cases c1 : ((nf : Nat) : Int) = (fsz kk dd : Nat)
          · have hz1 : (((nf : Nat) : Int) != ((fsz kk dd : Nat) : Int)) = false := by rw [c1]; simp
            obtain ⟨t2, ht2⟩ : ∃ t2, t2 = D.allHas zf nf := ⟨_, rfl⟩
            have HS2 : Hid (S = if t2 = true then 0 else 2) := by have h := HS.out; rw [if_neg (by omega), ← ht2] at h; exact h
            have HEl : Hid (Calls Try.prog 13 #[.agg #[.int .i64 D.q, .int .i64 D.p, .int .i64 D.m, .int .i64 D.gen, .slice (some ⟨gm, 0, none⟩) (D.m + 1) cm], .slice fo nf fc] w4 fun e w' => e = .returned (.bool t2) ∧ Below w4.heap.size w4 w') := by
              rw [ht2]; exact relements_any D.gen _ (by omega) (HW.out.2.2.2.2.2.1.below HB4.out).sl
            have HNe : Hid (nf = fsz kk dd) := by show nf = fsz kk dd; omega
            obtain ⟨x0, x1, x2, x3, x4⟩ := HBx.out w4 HB4.out
            clear ht2 c1 HS
            go_wp2_with fail
            refine HEl.out.mono ?_
            rintro e w5 ⟨rfl, hb5⟩
            have HB5 : Hid (Below wb.heap.size wb w5) := bel_up' HB4.out hb5
            clear hb5 x0 x1 x2 x3 x4
            cases t2 with
            | false =>
              have HMe : Hid (D.nchk nf zf (fsz kk dd : Nat) = 2 ∧ (2 : Int) ≠ 0) := ⟨by have h := HS2.out; simp at h; rw [← HSe.out]; exact h, by decide⟩
              go_wp2_with fail
              refine (HWr.out w5 HB5.out).mono ?_
              rintro e w8 ⟨hb8, ⟨_, rfl⟩ | ⟨hz0, _⟩⟩
              · have HB8 : Hid (Below wb.heap.size wb w8) := bel_up' HB5.out hb8
                rw [HMe.out.1]
                clear hb8
                go_wp2_with fail
                refine (lists_err2 2 HMe.out.2 none 0 _ w8).mono ?_
                rintro e w9 ⟨rfl, hw9⟩
                have hw9 := hw9.symm
                subst hw9
                obtain ⟨x0, x1, x2, x3, x4⟩ := HBx.out w8 HB8.out
                go_wp2_with fail
                refine (HRd.out _ HB8.out).mono ?_
                rintro e wy ⟨rfl, hby⟩
                have HBy : Hid (Below wb.heap.size wb wy) := bel_up' HB8.out hby
                obtain ⟨y0, y1, y2, y3, y4⟩ := HBx.out wy HBy.out
                clear hby
                go_wp2_with fail
                refine (HMd.out _ HBy.out).mono ?_
                rintro e wz ⟨rfl, hbz⟩
                have HBz : Hid (Below wb.heap.size wb wz) := bel_up' HBy.out hbz
                clear hbz y0 y1 y2 y3 y4
                go_wp2
                go_ret
                exact ⟨rfl, HFin.out _ HBz.out⟩
              · rw [HMe.out.1] at hz0
                exact absurd hz0 HMe.out.2
            | true =>
              have HNk : Hid (D.nchk nf zf (fsz kk dd : Nat) = 0) := by have h := HS2.out; simp at h; rw [← HSe.out]; exact h
              have HWt : Hid (Calls Try.prog 14 #[.agg #[.int .i64 D.q, .int .i64 D.p, .int .i64 D.m, .int .i64 D.gen, .slice (some ⟨gm, 0, none⟩) (D.m + 1) cm], .int .i64 (nn : Nat), .int .i64 (kk : Nat), .int .i64 (dd : Nat), .slice fo nf fc] w5 fun e w' => ∃ v, e = .returned v ∧ LLs w5.heap.size v (rl nn (dd - 1) (wrt D kk dd (zc nf zf))) w' ∧ Below w5.heap.size w5 w') := by
                have hA5 := HW.out.2.2.2.2.2.1.below HB5.out
                have hsl := has_sl (nchk_ok HNk.out).2 hA5.sl
                have hel := zc_eln (fld HD.out) HNk.out
                show Calls _ _ _ _ _
                have hw := rwritten_any (fc := fc) HD.out D.gen gm cm (n := nn) (k := kk) (d := dd) (d1 := dd - 1) (by omega) b3 b4 b5 b2 (by omega) hel (by rw [← HNe.out]; exact hsl) hA5.lt (HW.out.2.1.below HB5.out)
                rw [← HNe.out] at hw
                exact hw
              obtain ⟨x0, x1, x2, x3, x4⟩ := HBx.out w5 HB5.out
              go_wp2_with fail
              refine HWt.out.mono ?_
              rintro e w6 ⟨v6, rfl, hl6, hb6⟩
              have H6 : Hid (LLs w5.heap.size v6 (rl nn (dd - 1) (wrt D kk dd (zc nf zf))) w6 ∧ Below wb.heap.size wb w6) := ⟨hl6, bel_up' HB5.out hb6⟩
              clear hl6 hb6 x0 x1 x2 x3 x4
              go_wp2_with fail
              refine (HWr.out w6 H6.out.2).mono ?_
              rintro e w7 ⟨hb7, ⟨hz0, _⟩ | ⟨_, G7, h7, rfl, hM7⟩⟩
              · exact absurd HNk.out hz0
              · have HL : Hid (Calls Try.prog 16 #[.slice (some ⟨G7, 0, none⟩) nn nn, .int .i64 0, v6, .int .i64 0] w7 fun r w' => r = .returned (.bool true) ∧ ∃ n, w' = w7.drewN n) := by
                  obtain ⟨d1, hd1⟩ : ∃ d1, dd = d1 + 1 := ⟨dd - 1, by omega⟩
                  have hl := H6.out.1.below hb7 (Nat.le_refl _)
                  rw [hd1] at hM7 hl
                  rw [show d1 + 1 - 1 = d1 by omega] at hl
                  exact lists_same (hM7.llsN (by omega) (by omega)) hl (by rw [rl_len]; omega) (fun p hp => by
                    unfold rl at hp
                    obtain ⟨a, _, rfl⟩ := List.mem_map.1 hp
                    show d1 + 1 ≤ 1000000
                    omega)
                have HB7 : Hid (Below wb.heap.size wb w7) := bel_up' H6.out.2 hb7
                clear hb7 hM7
                go_wp2_with fail
                refine HL.out.mono ?_
                rintro e w8 ⟨rfl, j8, hw8⟩
                have HB8 : Hid (Below wb.heap.size wb w8) := by rw [hw8]; exact below_drewN2 HB7.out j8
                clear hw8
                obtain ⟨x0, x1, x2, x3, x4⟩ := HBx.out w8 HB8.out
                go_wp2_with fail
                refine (HRd.out _ HB8.out).mono ?_
                rintro e wy ⟨rfl, hby⟩
                have HBy : Hid (Below wb.heap.size wb wy) := bel_up' HB8.out hby
                obtain ⟨y0, y1, y2, y3, y4⟩ := HBx.out wy HBy.out
                clear hby
                go_wp2_with fail
                refine (HMd.out _ HBy.out).mono ?_
                rintro e wz ⟨rfl, hbz⟩
                have HBz : Hid (Below wb.heap.size wb wz) := bel_up' HBy.out hbz
                clear hbz y0 y1 y2 y3 y4
                go_wp2
                go_ret
                exact ⟨rfl, HFin.out _ HBz.out⟩
          · have hz1 : (((nf : Nat) : Int) != ((fsz kk dd : Nat) : Int)) = true := by rw [bne_iff_ne]; exact c1
            have HMe : Hid (D.nchk nf zf (fsz kk dd : Nat) = 6 ∧ (6 : Int) ≠ 0) := ⟨by rw [← HSe.out, HS.out, if_pos c1], by decide⟩
            go_wp2_with fail
            refine (HWr.out w4 HB4.out).mono ?_
            rintro e w8 ⟨hb8, ⟨_, rfl⟩ | ⟨hz0, _⟩⟩
            · have HB8 : Hid (Below wb.heap.size wb w8) := bel_up' HB4.out hb8
              rw [HMe.out.1]
              clear hb8
              go_wp2_with fail
              refine (lists_err2 6 HMe.out.2 none 0 _ w8).mono ?_
              rintro e w9 ⟨rfl, hw9⟩
              have hw9 := hw9.symm
              subst hw9
              obtain ⟨x0, x1, x2, x3, x4⟩ := HBx.out w8 HB8.out
              go_wp2_with fail
              refine (HRd.out _ HB8.out).mono ?_
              rintro e wy ⟨rfl, hby⟩
              have HBy : Hid (Below wb.heap.size wb wy) := bel_up' HB8.out hby
              obtain ⟨y0, y1, y2, y3, y4⟩ := HBx.out wy HBy.out
              clear hby
              go_wp2_with fail
              refine (HMd.out _ HBy.out).mono ?_
              rintro e wz ⟨rfl, hbz⟩
              have HBz : Hid (Below wb.heap.size wb wz) := bel_up' HBy.out hbz
              clear hbz y0 y1 y2 y3 y4
              go_wp2
              go_ret
              exact ⟨rfl, HFin.out _ HBz.out⟩
            · rw [HMe.out.1] at hz0
              exact absurd hz0 HMe.out.2
      · have HQ : Hid (∀ D ∈ fieldsL, (D.q : Int) ≠ q) := fun D hD e => hq ⟨D, hD, e⟩
        clear hq
        go_wp2_with fail
        refine (planMay_none q n k d HQ.out w).mono ?_
        rintro e w1 ⟨rfl, hb1⟩
        have HB1 : Hid (Below w.heap.size w w1) := hb1
        clear hb1
        go_wp2_with fail
        refine (snew_none q n k d HQ.out w1).mono ?_
        rintro e w2 ⟨rfl, hb2⟩
        have HB2 : Hid (Below w.heap.size w w2) := bel_up' HB1.out hb2
        clear hb2
        go_wp2
        go_ret
        exact ⟨rfl, HB2.out⟩
end Go.Proofs.Ytbofcldmgjeklaa

/- For StoreMade: the sizes that it draws of; how many of all nodes are below n; lists of lists with one exchanged. -/
namespace Go.Proofs.Ytbofcldmgjeklaa
open Go.RowKit Go.Sort

def smq (M : Nat) : Nat := [3, 4, 5, 7, 8, 9, 11, 13, 16].getD M 3
theorem smq_cell (M : Nat) (hM : M < 9) : (#[Value.int .i64 3, .int .i64 4, .int .i64 5, .int .i64 7, .int .i64 8, .int .i64 9, .int .i64 11, .int .i64 13, .int .i64 16] : Array Value)[M]? = some (.int .i64 (smq M : Nat)) := by
  match M, hM with
  | 0, _ => rfl
  | 1, _ => rfl
  | 2, _ => rfl
  | 3, _ => rfl
  | 4, _ => rfl
  | 5, _ => rfl
  | 6, _ => rfl
  | 7, _ => rfl
  | 8, _ => rfl
theorem smq_field (M : Nat) (hM : M < 9) : ∃ D ∈ fieldsL, D.q = smq M ∧ 3 ≤ D.q ∧ D.q ≤ 16 := by
  have h : ([3, 4, 5, 7, 8, 9, 11, 13, 16] : List Nat).all (fun z => fieldsL.any fun D => D.q == z) = true := by decide +kernel
  have hm : smq M ∈ ([3, 4, 5, 7, 8, 9, 11, 13, 16] : List Nat) ∧ 3 ≤ smq M ∧ smq M ≤ 16 := by
    have : M = 0 ∨ M = 1 ∨ M = 2 ∨ M = 3 ∨ M = 4 ∨ M = 5 ∨ M = 6 ∨ M = 7 ∨ M = 8 := by omega
    rcases this with rfl | rfl | rfl | rfl | rfl | rfl | rfl | rfl | rfl <;> decide
  have h2 := List.all_eq_true.1 h _ hm.1
  obtain ⟨D, hD, he⟩ := List.any_eq_true.1 h2
  have he := eq_of_beq he
  exact ⟨D, hD, he, by omega, by omega⟩
/-- Of the first places those below n. -/
def blN (n : Nat) (c : Nat → Nat) : Nat → List Int
  | 0 => []
  | i + 1 => if c i < n then blN n c i ++ [((c i : Nat) : Int)] else blN n c i
theorem blN_mem {n : Nat} {c : Nat → Nat} : ∀ {i : Nat} {x : Int}, x ∈ blN n c i → ∃ y : Nat, x = (y : Int) ∧ y < n
  | 0, x, h => by cases h
  | i + 1, x, h => by
    unfold blN at h
    by_cases e : c i < n
    · rw [if_pos e, List.mem_append, List.mem_singleton] at h
      rcases h with h | h
      · exact blN_mem h
      · exact ⟨c i, h, e⟩
    · rw [if_neg e] at h; exact blN_mem h
theorem blN_le (n : Nat) (c : Nat → Nat) : ∀ i, (blN n c i).length ≤ i
  | 0 => Nat.le_refl _
  | i + 1 => by
    have := blN_le n c i
    unfold blN
    split
    · rw [List.length_append]; show _ + 1 ≤ _; omega
    · omega
theorem blN_sum (n : Nat) (c : Nat → Nat) : ∀ i, ((blN n c i).length : Int) + zsum (fun j => if n ≤ c j then 1 else 0) i = (i : Int)
  | 0 => rfl
  | i + 1 => by
    have h := blN_sum n c i
    show ((blN n c (i + 1)).length : Int) + (zsum (fun j => if n ≤ c j then 1 else 0) i + if n ≤ c i then 1 else 0) = _
    unfold blN
    by_cases e : c i < n
    · rw [if_pos e, if_neg (by omega), List.length_append]
      show (((blN n c i).length + 1 : Nat) : Int) + _ = _
      omega
    · rw [if_neg e, if_pos (by omega)]
      omega
theorem one_at_most {c : Nat → Nat} {v : Nat} : ∀ m, (∀ i j, i < j → j < m → c i ≠ c j) → zsum (fun j => if c j = v then 1 else 0) m ≤ 1
  | 0, _ => by show (0 : Int) ≤ 1; decide
  | m + 1, h => by
    show zsum (fun j => if c j = v then 1 else 0) m + (if c m = v then 1 else 0) ≤ 1
    by_cases e : c m = v
    · rw [zsum_zero m (fun j hj => if_neg (fun x => h j m hj (by omega) (by rw [x, e]))), if_pos e]; decide
    · rw [if_neg e]
      have := one_at_most (c := c) (v := v) m (fun i j hi hj => h i j hi (by omega))
      omega
theorem blN_many {q n : Nat} {c : Nat → Nat} (h : Perm' q c) (hn : n ≤ q) : n ≤ (blN n c q).length := by
  have h1 := blN_sum n c q
  have h2 : zsum (fun j => if n ≤ c j then 1 else 0) q = zsum (fun j => zsum (fun v => if v = c j then (if n ≤ v then (1 : Int) else 0) else 0) q) q := zsum_congr q (fun j hj => (zsum_one (fun v => if n ≤ v then (1 : Int) else 0) q (h.1 j hj)).symm)
  rw [zsum_swap (fun j v => if v = c j then (if n ≤ v then (1 : Int) else 0) else 0)] at h2
  have h3 : zsum (fun v => zsum (fun j => if v = c j then (if n ≤ v then (1 : Int) else 0) else 0) q) q ≤ zsum (fun v => if n ≤ v then 1 else 0) q := zsum_le q (fun v _ => by
    by_cases e : n ≤ v
    · rw [if_pos e]
      have h4 := one_at_most (c := c) (v := v) q h.2
      have h5 : zsum (fun j => if v = c j then (1 : Int) else 0) q = zsum (fun j => if c j = v then 1 else 0) q := zsum_congr q (fun j _ => by
        by_cases e2 : v = c j
        · rw [if_pos e2, if_pos e2.symm]
        · rw [if_neg e2, if_neg (fun x => e2 x.symm)])
      rw [h5]; exact h4
    · rw [if_neg e, zsum_zero q (fun j _ => by
        by_cases e2 : v = c j
        · rw [if_pos e2]
        · rw [if_neg e2])]
      exact Int.le_refl _)
  have h6 : ∀ m, zsum (fun v => if n ≤ v then 1 else 0) m = ((m - n : Nat) : Int) := fun m => by
    induction m with
    | zero => rw [Nat.zero_sub]; rfl
    | succ m ih =>
      show zsum (fun v => if n ≤ v then 1 else 0) m + (if n ≤ m then 1 else 0) = _
      rw [ih]
      by_cases e : n ≤ m
      · rw [if_pos e]; omega
      · rw [if_neg e]; omega
  rw [h6 q] at h3
  omega
theorem OwnV.rowF {base k cap : Nat} {ao : Option Addr} {l : List Value} {w : World} (h : OwnV base (.slice ao k cap) l w) (hk : 0 < k) : ∃ g f, ao = some ⟨g, 0, none⟩ ∧ RowF g cap 22 f w ∧ k ≤ cap ∧ base ≤ g ∧ ∀ i, i < k → l[i]? = some (f i) := by
  rcases h with ⟨hl, ⟨e1, e⟩ | ⟨G, cap', cur, hv, hg, hh, hle, hcm, hsz, htake⟩⟩
  · cases e1; omega
  · have e2 := hv
    cases hv
    refine ⟨G, fun i => (cur[i]?).getD undef, rfl, ⟨cur, hh, by omega, fun o ho => ?_⟩, hle, hg, fun i hi => ?_⟩
    · show cur[o]? = some ((cur[o]?).getD undef)
      rw [Array.getElem?_eq_getElem (by omega)]; rfl
    · have h3 : (cur.toList.take (l.length * 1))[i]? = l[i]? := by rw [htake]
      rw [List.getElem?_take, if_pos (by omega), Array.getElem?_toList] at h3
      show l[i]? = some ((cur[i]?).getD undef)
      rw [← h3, Array.getElem?_eq_getElem (by omega)]; rfl
/-- Lists of one length in a list of lists, to be handed in. -/
theorem matO_row {g cap k d : Nat} {f : Nat → Value} {w : World} (hR : RowF g cap 22 f w) (hk : k ≤ cap) (hg : ∀ i, i < k → ∃ ao ca z, f i = .slice ao d ca ∧ ArgL ao d ca z w) : ∃ A C Z, MatO (some ⟨g, 0, none⟩) k A (fun _ => d) C Z w := by
  classical
  have key : ∀ i, ∃ p : (Option Addr) × Nat × (Nat → Int), i < k → f i = .slice p.1 d p.2.1 ∧ ArgL p.1 d p.2.1 p.2.2 w := fun i => by
    by_cases e : i < k
    · obtain ⟨ao, ca, z, h1, h2⟩ := hg i e
      exact ⟨(ao, ca, z), fun _ => ⟨h1, h2⟩⟩
    · exact ⟨(none, 0, fun _ => 0), fun x => absurd x e⟩
  obtain ⟨P, hP⟩ : ∃ P : Nat → (Option Addr) × Nat × (Nat → Int), ∀ i, i < k → f i = .slice (P i).1 d (P i).2.1 ∧ ArgL (P i).1 d (P i).2.1 (P i).2.2 w := ⟨fun i => Classical.choose (key i), fun i hi => Classical.choose_spec (key i) hi⟩
  refine ⟨fun i => (P i).1, fun i => (P i).2.1, fun i => (P i).2.2, fun i hi => ⟨g, 0, rfl, ?_⟩, fun i hi => (hP i hi).2.sl, fun i hi => (hP i hi).2.le, fun i hi => (hP i hi).2.cap, fun i hi => (hP i hi).2.nil⟩
  rw [Nat.zero_add, hR.cell i (by omega), (hP i hi).1]
/-- What several written nodes have, the first list exchanged. -/
theorem have_set {base k d1 ca : Nat} {ao : Option Addr} {L : List (Nat × (Nat → Nat))} {y : Nat → Int} {v : Value} {w : World} (h : LLs base (.slice ao k ca) L w) (hL : L.length = k) (hk : 0 < k) (hp : ∀ p ∈ L, p.1 = d1) (hv : OwnI base v (zl (d1 + 1) y) w) :
    ∃ g, ao = some ⟨g, 0, none⟩ ∧ base ≤ g ∧ (∃ u, w.cell? ⟨g, 0, none⟩ = some u) ∧ w.frozen? ⟨g, 0, none⟩ = false ∧ ∃ A C Z, MatO ao k A (fun _ => d1 + 1) C Z (w.setCell ⟨g, 0, none⟩ v) := by
  obtain ⟨l, h1, h2⟩ := h
  obtain ⟨g, f, rfl, hR, hkc, hbg, hf⟩ := h1.rowF hk
  refine ⟨g, rfl, hbg, ⟨_, hR.cell 0 (by omega)⟩, hR.free 0, ?_⟩
  refine matO_row (hR.store 0 v) hkc (fun i hi => ?_)
  by_cases e : i = 0
  · rw [e, upd_at]
    have hv2 : OwnI base v (zl (d1 + 1) y) (w.setCell ⟨g, 0, none⟩ v) := hv.same (fun x hx => Below.heap_setCell _ _ _ _ (by
      rcases hv.apart h1 with h3 | h3
      · rw [h3] at hx; cases hx
      · intro e2
        exact h3 (by rw [hx, e2]; rfl)))
    obtain ⟨bo, cb, rfl, ha⟩ := hv2.argL
    exact ⟨bo, cb, y, rfl, ha⟩
  · rw [upd_ne _ _ _ e]
    have hi2 : i < L.length := by omega
    obtain ⟨b, cp, e1, e2, e3, e4⟩ := h2.2 i (f i) L[i] (hf i hi) (List.getElem?_eq_getElem hi2)
    have hpd : L[i].1 = d1 := hp _ (List.getElem_mem hi2)
    rw [hpd] at e1 e2 e4
    have hbn : b ≠ g := fun x => (e4.apart h1) (by rw [x]; rfl)
    have e5 : Row b (d1 + 1) L[i].2 (w.setCell ⟨g, 0, none⟩ v) := e4.other (Below.heap_setCell _ _ _ _ hbn)
    exact ⟨some ⟨b, 0, none⟩, cp, _, e1, (e5.sl (Nat.le_refl _)).z, (fun x hx => by cases hx; exact e5.lt), (fun x => by cases x), e2, e3⟩
/-- What several written nodes have. -/
theorem have_keep {base k d1 ca : Nat} {ao : Option Addr} {L : List (Nat × (Nat → Nat))} {w : World} (h : LLs base (.slice ao k ca) L w) (hL : L.length = k) (hk : 0 < k) (hp : ∀ p ∈ L, p.1 = d1) : ∃ A C Z, MatO ao k A (fun _ => d1 + 1) C Z w := by
  obtain ⟨l, h1, h2⟩ := h
  obtain ⟨g, f, rfl, hR, hkc, hbg, hf⟩ := h1.rowF hk
  refine matO_row hR hkc (fun i hi => ?_)
  have hi2 : i < L.length := by omega
  obtain ⟨b, cp, e1, e2, e3, e4⟩ := h2.2 i (f i) L[i] (hf i hi) (List.getElem?_eq_getElem hi2)
  have hpd : L[i].1 = d1 := hp _ (List.getElem_mem hi2)
  rw [hpd] at e1 e2 e4
  exact ⟨some ⟨b, 0, none⟩, cp, _, e1, (e4.sl (Nat.le_refl _)).z, (fun x hx => by cases hx; exact e4.lt), (fun x => by cases x), e2, e3⟩
end Go.Proofs.Ytbofcldmgjeklaa
