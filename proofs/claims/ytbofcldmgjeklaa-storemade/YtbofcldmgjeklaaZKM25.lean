/- The law's part on Read: storeReads. -/
import Derived.Test.YtbofcldmgjeklaaZKM24
import Derived.Test.YtbofcldmgjeklaaZW15
import Derived.Test.YtbofcldmgjeklaaZL1
namespace Go.Proofs.Ytbofcldmgjeklaa
open Go.RowKit Go.Sort

/-- Both sides' files are one list. -/
theorem files_same {D : FD} (F : Fld D) {k d : Nat} {xs c c' : Nat → Nat} {H Q Q' : Nat → Nat → Nat} (hk : k ≤ d) (hx : ∀ i, i < k → xs i < D.q) (hne : ∀ i j, i < k → j < k → i ≠ j → xs i ≠ xs j) (h : Fnd D k d xs H Q) (h' : Fnd D k d xs H Q') (hs : Smt Q' d) (hc : ∀ i j, i < k → i ≤ j → j < d → c (plr k d i j) = Q j i) (hc' : ∀ i j, i < k → i ≤ j → j < d → c' (plr k d i j) = Q' i j) :
    (zl (fsz k d) fun r => ((c r : Nat) : Int)) = zl (fsz k d) fun r => ((c' r : Nat) : Int) := by
  have ho := h.one F hk hx hne h'
  refine zl_congr (fun r hr => ?_)
  rw [fsz_is] at hr
  obtain ⟨i, j, hi, hij, hj, rfl⟩ := plr_surj hk hr
  rw [hc i j hi hij hj, hc' i j hi hij hj, ho j hj]
  by_cases e : i = j
  · rw [e]
  · rw [hs j i hj (by omega)]
theorem smt_same {D : FD} (F : Fld D) {k d : Nat} {xs : Nat → Nat} {H Q Q' : Nat → Nat → Nat} (hk : k ≤ d) (hx : ∀ i, i < k → xs i < D.q) (hne : ∀ i j, i < k → j < k → i ≠ j → xs i ≠ xs j) (h : Fnd D k d xs H Q) (h' : Fnd D k d xs H Q') : Smt Q d → Smt Q' d := fun hs i j hi hj => by
  have ho := h.one F hk hx hne h'
  rw [← ho i hi, ← ho j (by omega)]
  exact hs i j hi hj

set_option maxHeartbeats 8000000 in
set_option maxRecDepth 100000 in
theorem storeReads_any {D : FD} (hD : D ∈ fieldsL) (gen gm cm : Nat) {B F T : Nat} {g : Nat → Value} {n k d m ca hm hc : Nat} {ao ho : Option Addr} {z : Nat → Int} {A : Nat → Option Addr} {N C : Nat → Nat} {Z : Nat → Nat → Int} {w : World} (hP : PlA B F (n : Nat) (k : Nat) (d : Nat) w) (hF : FAt F T D g w) (hM : ModAt D (.slice (some ⟨gm, 0, none⟩) (D.m + 1) cm) D.md w) (hA : Arg ao m ca z w) (hH : MatZ ho hm A N C Z w) (hm1 : m ≤ 1000) (hhm : hm ≤ 1000000) (hk1 : 1 ≤ k) (hk : k ≤ d) (hd : d ≤ 15) (hn : n ≤ D.q) :
    Calls Try.prog 17 #[.pointer (some ⟨B, 0, none⟩), .agg #[.int .i64 D.q, .int .i64 D.p, .int .i64 D.m, .int .i64 gen, .slice (some ⟨gm, 0, none⟩) (D.m + 1) cm], .int .i64 (n : Nat), .int .i64 (k : Nat), .int .i64 (d : Nat), .slice ao m ca, .slice ho hm hc] w fun e w' => e = .returned (.bool true) ∧ Below w.heap.size w w' := by
  obtain ⟨wa, hwa⟩ : ∃ wa, wa = w.alloc (.cells #[.int .i64 D.q, .int .i64 D.p, .int .i64 D.m, .int .i64 gen, .slice (some ⟨gm, 0, none⟩) (D.m + 1) cm] 31) := ⟨_, rfl⟩
  have hba : Below w.heap.size w wa := by rw [hwa]; exact (Below.refl _ _).alloc (Nat.le_refl _) _
  have hsa : wa.heap.size = w.heap.size + 1 := by rw [hwa]; simp
  have hq64 : n ≤ 64 := by have := (fld hD).q64; omega
  have HX : Hid (Box w.heap.size D gen (.slice (some ⟨gm, 0, none⟩) (D.m + 1) cm) wa ∧ wa.heap.size = w.heap.size + 1 ∧ Below w.heap.size w wa ∧ ModAt D (.slice (some ⟨gm, 0, none⟩) (D.m + 1) cm) D.md wa ∧ D ∈ fieldsL ∧ Arg ao m ca z wa ∧ MatZ ho hm A N C Z wa ∧ PlA B F (n : Nat) (k : Nat) (d : Nat) wa ∧ FAt F T D g wa) := ⟨by rw [hwa]; exact box_new D gen _ w, hsa, hba, hM.below hba, hD, hA.below hba, hH.below hba, hP.below hba, hF.below hba hF.ltF hF.ltT⟩
  have HBx : Hid (∀ wx, Below wa.heap.size wa wx → Box w.heap.size D gen (.slice (some ⟨gm, 0, none⟩) (D.m + 1) cm) wx) := fun wx hb => HX.out.1.below (B := wa.heap.size) hb (by omega)
  obtain ⟨E1, hE1⟩ : ∃ E1, E1 = ndchk m z n k := ⟨_, rfl⟩
  obtain ⟨E2, hE2⟩ : ∃ E2, E2 = hvm D m hm N Z d := ⟨_, rfl⟩
  have HE : Hid (rdc D m z hm N Z n k d = if E1 ≠ 0 then E1 else E2) := by show _ = _; unfold rdc; rw [hE1, hE2]
  have HC1 : Hid (Calls Try.prog 48 #[.slice ao m ca, .int .i64 (n : Nat), .int .i64 (k : Nat)] wa fun e w' => e = .returned (.int .i64 E1) ∧ ∃ j, w' = wa.drewN j) := by
    rw [hE1]; exact nodesMay_any (n : Nat) HX.out.2.2.2.2.2.1 hm1 (k : Nat)
  have HC2 : Hid (∀ j, Calls Try.prog 49 #[.agg #[.int .i64 D.q, .int .i64 D.p, .int .i64 D.m, .int .i64 gen, .slice (some ⟨gm, 0, none⟩) (D.m + 1) cm], .slice ao m ca, .slice ho hm hc, .int .i64 (d : Nat)] (wa.drewN j) fun e w' => e = .returned (.int .i64 E2) ∧ Below wa.heap.size wa w') := fun j => by
    rw [hE2]
    refine (haveMay_any gen _ (HX.out.2.2.2.2.2.2.1.below (below_drewN2 (Below.refl _ _) j)) hhm (d : Nat)).mono ?_
    rintro e w' ⟨h1, h2⟩
    exact ⟨h1, ⟨h2.os, h2.tape, h2.output, h2.size, h2.block⟩⟩
  have HRd : Hid (∀ wx, Below wa.heap.size wa wx → Calls Try.prog 51 #[.pointer (some ⟨B, 0, none⟩), .slice ao m ca, .slice ho hm hc] wx (RdStP D m z hm N Z n k d wx)) := fun wx hb => sread_any HX.out.2.2.2.2.1 (HX.out.2.2.2.2.2.2.2.1.below hb) (HX.out.2.2.2.2.2.2.2.2.below hb HX.out.2.2.2.2.2.2.2.2.ltF HX.out.2.2.2.2.2.2.2.2.ltT) (HX.out.2.2.2.2.2.1.below hb) (HX.out.2.2.2.2.2.2.1.below hb) hm1 hhm hk1 hk hd hn
  clear hD hba hsa hM hA hH hP hF hE1 hE2
  go_enter Try.func17, Try.ntmps17
  go_wp2_with fail
  rw [← hwa]
  clear hwa
  refine HC1.out.mono ?_
  rintro e w1 ⟨rfl, j1, hw1⟩
  by_cases h1 : E1 = 0
  · have HM : Hid (rdc D m z hm N Z n k d = E2) := by have h := HE.out; rw [if_neg (by omega)] at h; exact h
    subst h1
    have bx := HBx.out w1 (by rw [hw1]; exact below_drewN2 (Below.refl _ _) j1)
    obtain ⟨k0, k1, k2, k3, k4⟩ := bx
    have HC3 : Hid (Calls Try.prog 49 #[.agg #[.int .i64 D.q, .int .i64 D.p, .int .i64 D.m, .int .i64 gen, .slice (some ⟨gm, 0, none⟩) (D.m + 1) cm], .slice ao m ca, .slice ho hm hc, .int .i64 (d : Nat)] w1 fun e w' => e = .returned (.int .i64 E2) ∧ Below wa.heap.size wa w') := by rw [hw1]; exact HC2.out j1
    clear hw1
    go_wp2_with fail
    refine HC3.out.mono ?_
    rintro e w2 ⟨rfl, hb2⟩
    have HB2 : Hid (Below wa.heap.size wa w2) := hb2
    clear k0 k1 k2 k3 k4
    by_cases h2 : E2 = 0
    · have HZ : Hid (rdc D m z hm N Z n k d = 0) := by show _ = _; rw [HM.out, h2]
      subst h2
      have HO : Hid (RdO D m z hm N Z n k d) := rdc_ok (fld HX.out.2.2.2.2.1) HZ.out
      have HFo : Hid (Calls Try.prog 50 #[.agg #[.int .i64 D.q, .int .i64 D.p, .int .i64 D.m, .int .i64 gen, .slice (some ⟨gm, 0, none⟩) (D.m + 1) cm], .int .i64 (n : Nat), .int .i64 (k : Nat), .int .i64 (d : Nat), .slice ao m ca, .slice ho hm hc] w2 (FoP D k d (zc m z) (mzc N Z) w2)) := by
        have o := HO.out
        show Calls _ _ _ _ _
        have hA2 := (HX.out.2.2.2.2.2.1.below hb2)
        have hmt := o.mat (d1 := d - 1) (by omega) (HX.out.2.2.2.2.2.2.1.below hb2)
        rw [o.em] at hA2 ⊢
        rw [o.eh]
        exact rfileOf_any HX.out.2.2.2.2.1 gen gm cm (k1 := k - 1) (d1 := d - 1) (by omega) (by omega) hk hd hn hq64 (fun i hi => (o.x i hi).1) o.ne o.el (hA2.nat (fun j hj => by have := (o.x j hj).2; omega)) hmt (HX.out.2.2.2.1.below hb2)
      obtain ⟨k0, k1, k2, k3, k4⟩ := HBx.out w2 hb2
      clear hb2
      go_wp2_with fail
      refine HFo.out.mono ?_
      rintro e w3 ⟨hb3, Q, hQ, he⟩
      have HB3 : Hid (Below wa.heap.size wa w3 ∧ Below w2.heap.size w2 w3) := ⟨bel_up' HB2.out hb3, hb3⟩
      have HQ : Hid (Fnd D k d (zc k z) (mzc N Z) Q ∧ (∀ i, i < k → zc k z i < D.q) ∧ ∀ i j, i < k → j < k → i ≠ j → zc k z i ≠ zc k z j) := by
        have o := HO.out
        refine ⟨?_, fun i hi => by have := (o.x i hi).1; omega, o.ne⟩
        have h := hQ
        rw [o.em] at h
        exact h
      have HR3 := HRd.out w3 (bel_up' HB2.out hb3)
      replace HR3 : Hid (Calls Try.prog 51 #[.pointer (some ⟨B, 0, none⟩), .slice ao m ca, .slice ho hm hc] w3 (RdStP D m z hm N Z n k d w3)) := HR3
      clear hQ hb3 k0 k1 k2 k3 k4
      rcases he with ⟨hs, rfl⟩ | ⟨hs, v, c, rfl, hown, hpl⟩
      · have HS : Hid (¬ Smt Q d) := hs
        clear hs
        go_wp2_with fail
        refine HR3.out.mono ?_
        rintro e w4 ⟨hb4, ⟨hz, _⟩ | ⟨_, Q', hQ', ⟨hs', rfl⟩ | ⟨hs', _⟩⟩⟩
        · exact absurd HZ.out hz
        · have HB4 : Hid (Below w.heap.size w w4) := bel_up' (bel_up' HX.out.2.2.1 HB3.out.1) hb4
          clear hb4 hQ' hs'
          go_wp2_with fail
          refine (list_err2 9 (by decide) none 0 _ w4).mono ?_
          rintro e w5 ⟨rfl, hw5⟩
          have hw5 := hw5.symm
          subst hw5
          go_wp2
          go_ret
          exact ⟨rfl, HB4.out⟩
        · rw [HO.out.em] at hQ'
          exact absurd (smt_same (fld HX.out.2.2.2.2.1) hk HQ.out.2.1 HQ.out.2.2 hQ' HQ.out.1 hs') HS.out
      · have HS : Hid (Smt Q d ∧ OwnI w2.heap.size v (zl (fsz k d) fun r => ((c r : Nat) : Int)) w3 ∧ ∀ i j, i < k → i ≤ j → j < d → c (plr k d i j) = Q j i) := ⟨hs, hown, hpl⟩
        clear hs hown hpl
        go_wp2_with fail
        refine HR3.out.mono ?_
        rintro e w4 ⟨hb4, ⟨hz, _⟩ | ⟨_, Q', hQ', ⟨hs', _⟩ | ⟨hs', v', c', rfl, hown', hpl'⟩⟩⟩
        · exact absurd HZ.out hz
        · rw [HO.out.em] at hQ'
          exact absurd (smt_same (fld HX.out.2.2.2.2.1) hk HQ.out.2.1 HQ.out.2.2 HQ.out.1 hQ' HS.out.1) hs'
        · have hfs := fsz_le hk hd
          have HL : Hid (Calls Try.prog 33 #[v', .int .i64 0, v, .int .i64 0] w4 fun r w' => r = .returned (.bool true) ∧ ∃ n, w' = w4.drewN n) := by
            refine list_gen (Or.inr ⟨rfl, _, hown'.slice (by rw [zl_len]; unfold fsz; omega), ?_⟩)
            rw [HO.out.em] at hQ'
            rw [← files_same (fld HX.out.2.2.2.2.1) hk HQ.out.2.1 HQ.out.2.2 HQ.out.1 hQ' hs' HS.out.2.2 hpl']
            exact (HS.out.2.1.below hb4 (fun x hx => (HS.out.2.1.lt x hx).2)).slice (by rw [zl_len]; unfold fsz; omega)
          have HB4 : Hid (Below w.heap.size w w4) := bel_up' (bel_up' HX.out.2.2.1 HB3.out.1) hb4
          clear hb4 hQ' hs' hown' hpl' hfs
          go_wp2_with fail
          refine HL.out.mono ?_
          rintro e w5 ⟨rfl, nn, hw5⟩
          have HB5 : Hid (Below w.heap.size w w5) := by rw [hw5]; exact below_drewN2 HB4.out nn
          clear hw5
          go_wp2
          go_ret
          exact ⟨rfl, HB5.out⟩
    · have hz : (E2 == 0) = false := by rw [beq_eq_false_iff_ne]; exact h2
      have HE2 : Hid (E2 ≠ 0) := h2
      have HR3 := HRd.out w2 hb2
      replace HR3 : Hid (Calls Try.prog 51 #[.pointer (some ⟨B, 0, none⟩), .slice ao m ca, .slice ho hm hc] w2 (RdStP D m z hm N Z n k d w2)) := HR3
      clear h2 hb2
      go_wp2_with fail
      refine HR3.out.mono ?_
      rintro e w4 ⟨hb4, ⟨_, rfl⟩ | ⟨hz0, _⟩⟩
      · have HB4 : Hid (Below w.heap.size w w4) := bel_up' (bel_up' HX.out.2.2.1 HB2.out) hb4
        rw [HM.out]
        clear hb4
        go_wp2_with fail
        refine (list_err2 E2 HE2.out none 0 _ w4).mono ?_
        rintro e w5 ⟨rfl, hw5⟩
        have hw5 := hw5.symm
        subst hw5
        go_wp2
        go_ret
        exact ⟨rfl, HB4.out⟩
      · rw [HM.out] at hz0
        exact absurd hz0 HE2.out
  · have hz : (E1 == 0) = false := by rw [beq_eq_false_iff_ne]; exact h1
    have HE1 : Hid (E1 ≠ 0) := h1
    have HM : Hid (rdc D m z hm N Z n k d = E1) := by have h := HE.out; rw [if_pos h1] at h; exact h
    have HB1 : Hid (Below wa.heap.size wa w1) := by rw [hw1]; exact below_drewN2 (Below.refl _ _) j1
    have HR3 := HRd.out w1 HB1.out
    replace HR3 : Hid (Calls Try.prog 51 #[.pointer (some ⟨B, 0, none⟩), .slice ao m ca, .slice ho hm hc] w1 (RdStP D m z hm N Z n k d w1)) := HR3
    clear h1 hw1
    go_wp2_with fail
    refine HR3.out.mono ?_
    rintro e w4 ⟨hb4, ⟨_, rfl⟩ | ⟨hz0, _⟩⟩
    · have HB4 : Hid (Below w.heap.size w w4) := bel_up' (bel_up' HX.out.2.2.1 HB1.out) hb4
      rw [HM.out]
      clear hb4
      go_wp2_with fail
      refine (list_err2 E1 HE1.out none 0 _ w4).mono ?_
      rintro e w5 ⟨rfl, hw5⟩
      have hw5 := hw5.symm
      subst hw5
      go_wp2
      go_ret
      exact ⟨rfl, HB4.out⟩
    · rw [HM.out] at hz0
      exact absurd hz0 HE1.out
end Go.Proofs.Ytbofcldmgjeklaa
