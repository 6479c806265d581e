/- Texts of ours, one behind the other: Y7 Y8. -/
import Derived.Test.YtnjbnamcedfjaaaZY6
import Derived.Test.YtnjbnamcedfjaaaZX19
/- ReedRules: the walk of the statement, whatever it is given. -/
namespace Go.Proofs.Ytnjbnamcedfjaaa
open Go.RowKit Go.Sort

set_option maxHeartbeats 2000000 in
set_option maxRecDepth 100000 in
theorem rrr_mid (q : Int) {so : Option Addr} {n sc : Nat} {w : World} (h1 : 24 < n) (h2 : n ≤ 128) :
    Calls Try.prog 6 #[.int .i64 q, .slice so n sc] w fun r w' => r = .returned (.bool true) ∧ Below w.heap.size w w' := by
  have h3 : (24 : Int) < (n : Int) := by omega
  have h4 : (n : Int) ≤ 128 := by omega
  go_enter Try.func6, Try.ntmps6
  go_wp2
  go_ret
  exact ⟨rfl, Below.refl _ _⟩
set_option maxHeartbeats 2000000 in
set_option maxRecDepth 100000 in
theorem rrr_err (q e : Int) (he : e ≠ 0) {so : Option Addr} {n sc : Nat} {w : World} (hn : n ≤ 24 ∨ 128 < n) (hn2 : n ≤ 17592186044416) (hP : Calls Try.prog 21 #[.int .i64 q, .slice so n sc] w fun x w' => x = .returned (.int .i64 e) ∧ Below w.heap.size w w')
    (hM : ∀ w1, Below w.heap.size w w1 → Calls Try.prog 27 #[.int .i64 q, .slice so n sc] w1 fun x w' => x = .returned (.tuple #[.slice none 0 0, .int .i64 0, .int .i64 e]) ∧ Below w1.heap.size w1 w') :
    Calls Try.prog 6 #[.int .i64 q, .slice so n sc] w fun r w' => r = .returned (.bool true) ∧ Below w.heap.size w w' := by
  have HP : Hid (Calls Try.prog 21 #[.int .i64 q, .slice so n sc] w fun x w' => x = .returned (.int .i64 e) ∧ Below w.heap.size w w') := hP
  have HM : Hid (∀ w1, Below w.heap.size w w1 → Calls Try.prog 27 #[.int .i64 q, .slice so n sc] w1 fun x w' => x = .returned (.tuple #[.slice none 0 0, .int .i64 0, .int .i64 e]) ∧ Below w1.heap.size w1 w') := hM
  have hz : (e != 0) = true := by rw [bne_iff_ne]; exact he
  clear hP hM he
  rcases hn with h | h
  · have h3 : ¬ (24 : Int) < (n : Int) := by omega
    go_enter Try.func6, Try.ntmps6
    go_wp2_with fail
    refine HP.out.mono ?_
    rintro x w1 ⟨rfl, hb1⟩
    have H1 : Hid (Below w.heap.size w w1) := hb1
    clear hb1
    go_wp2_with fail
    refine (HM.out _ H1.out).mono ?_
    rintro x w2 ⟨rfl, hb2⟩
    have H2 : Hid (Below w.heap.size w w2) := bel_up' H1.out hb2
    clear hb2
    go_wp2
    go_ret
    exact ⟨rfl, H2.out⟩
  · have h3 : (24 : Int) < (n : Int) := by omega
    have h4 : ¬ (n : Int) ≤ 128 := by omega
    go_enter Try.func6, Try.ntmps6
    go_wp2_with fail
    refine HP.out.mono ?_
    rintro x w1 ⟨rfl, hb1⟩
    have H1 : Hid (Below w.heap.size w w1) := hb1
    clear hb1
    go_wp2_with fail
    refine (HM.out _ H1.out).mono ?_
    rintro x w2 ⟨rfl, hb2⟩
    have H2 : Hid (Below w.heap.size w w2) := bel_up' H1.out hb2
    clear hb2
    go_wp2
    go_ret
    exact ⟨rfl, H2.out⟩
set_option maxHeartbeats 4000000 in
set_option maxRecDepth 100000 in
theorem rrr_any {D : FD} (hD : D ∈ fieldsL) {so : Option Addr} {n sc : Nat} {z : Nat → Int} {w : World} (hs : Arg so n sc z w) (h0 : D.chk n z = 0) (hn : n ≤ 24) :
    Calls Try.prog 6 #[.int .i64 D.q, .slice so n sc] w fun r w' => r = .returned (.bool true) ∧ Below w.heap.size w w' := by
  obtain ⟨s, hs0⟩ : ∃ s, s = zc n z := ⟨_, rfl⟩
  have HH : Hid (D ∈ fieldsL ∧ Arg so n sc z w ∧ El D s ∧ Sl so n s w ∧ D.chk n z = 0 ∧ s = zc n z) := ⟨hD, hs, by rw [hs0]; exact zc_el (fld hD) h0, by rw [hs0]; exact zc_sl h0 hs.sl, h0, hs0⟩
  have HCk : Hid (Calls Try.prog 21 #[.int .i64 D.q, .slice so n sc] w fun e w' => e = .returned (.int .i64 0) ∧ Below w.heap.size w w') := by
    show Calls _ _ _ _ _
    have h := polyMay_any (cap := sc) hD hs.sl hs.lt hs.few
    rw [h0] at h; exact h
  have h3 : ¬ (24 : Int) < (n : Int) := by omega
  clear hD hs h0 hs0
  go_enter Try.func6, Try.ntmps6
  go_wp2_with fail
  refine HCk.out.mono ?_
  rintro x w1 ⟨rfl, hb1⟩
  have H1 : Hid (Below w.heap.size w w1) := hb1
  clear hb1
  go_wp2_with fail
  refine (massey_any HH.out.1 (HH.out.2.1.below H1.out) HH.out.2.2.2.2.1).mono ?_
  rintro x w2 ⟨hb2, ro, rc, C, lc, L, O, lo, b, rfl, hB, hA⟩
  rw [← HH.out.2.2.2.2.2] at hB
  obtain ⟨lr, hlr⟩ : ∃ lr, lr = dgn C lc := ⟨_, rfl⟩
  rw [← hlr]
  have hLn := hB.le
  have hlr1 : lr ≤ lc := by rw [hlr]; exact dgn_le _ _
  have hlcL := hB.lcL
  have H2 : Hid (Below w.heap.size w w2 ∧ BMS D s n C lc L O lo b ∧ Sl ro lr C w2 ∧ LtB ro w2.heap.size ∧ Bd lr C ∧ 1 ≤ lr ∧ C (lr - 1) ≠ 0) := by
    have hbd : Bd lr C := by rw [hlr]; exact dgn_bd hB.bdc
    have h1 : 1 ≤ lr := by
      rcases Nat.eq_zero_or_pos lr with e | e
      · have h := hbd 0 (by omega)
        rw [hB.rul.one] at h
        cases h
      · exact e
    refine ⟨bel_up' H1.out hb2, hB, fun j hj => hA.sl j (by omega), hA.lt, hbd, h1, ?_⟩
    rw [hlr]
    exact dgn_top C lc (by rw [← hlr]; omega)
  clear hB hA hb2 hlr
  have hL0 : (0 : Int) ≤ (L : Int) := by omega
  have hLn' : (L : Int) ≤ (n : Int) := by omega
  go_wp2_with fail
  refine (rfield_sl HH.out.1 w2).mono ?_
  rintro e w3 ⟨gm, cm, rfl, hmod, hb3⟩
  unfold rf
  obtain ⟨wa, hwa⟩ : ∃ wa, wa = w3.alloc (.cells #[.int .i64 D.q, .int .i64 D.p, .int .i64 D.m, .int .i64 D.gen, .slice (some ⟨gm, 0, none⟩) (D.m + 1) cm] 40) := ⟨_, rfl⟩
  have hba : Below w3.heap.size w3 wa := by rw [hwa]; exact (Below.refl _ _).alloc (Nat.le_refl _) _
  have HX : Hid (Box w3.heap.size D D.gen (.slice (some ⟨gm, 0, none⟩) (D.m + 1) cm) wa ∧ wa.heap.size = w3.heap.size + 1 ∧ Below w.heap.size w wa ∧ ModAt D (.slice (some ⟨gm, 0, none⟩) (D.m + 1) cm) D.md wa ∧ Sl ro lr C wa ∧ LtB ro wa.heap.size ∧ Sl so n s wa ∧ LtB so wa.heap.size) := by
    have hb4 := bel_up' hb3 hba
    have hb5 := bel_up' H2.out.1 hb4
    exact ⟨by rw [hwa]; exact box_new D D.gen _ w3, by rw [hwa]; simp, hb5, hmod.below hba, H2.out.2.2.1.below hb4 H2.out.2.2.2.1, H2.out.2.2.2.1.mono hb4.size, HH.out.2.2.2.1.below hb5 HH.out.2.1.lt, HH.out.2.1.lt.mono hb5.size⟩
  clear hmod hb3 hba
  have HC1 : Hid (Calls Try.prog 28 #[.agg #[.int .i64 D.q, .int .i64 D.p, .int .i64 D.m, .int .i64 D.gen, .slice (some ⟨gm, 0, none⟩) (D.m + 1) cm], .slice ro lr rc] wa fun e w' => e = .returned (.bool true) ∧ Below wa.heap.size wa w') := by
    have h := relements_any (D := D) (ca := rc) (z := fun j => ((C j : Nat) : Int)) D.gen (.slice (some ⟨gm, 0, none⟩) (D.m + 1) cm) (by omega) (show SlZ ro lr (fun j => ((C j : Nat) : Int)) wa from HX.out.2.2.2.2.1)
    rw [allHas_iff.2 (fun j _ => has_of_lt (H2.out.2.1.rul.el j))] at h
    exact h
  have HC2 : Hid (∀ wx, Below wa.heap.size wa wx → Calls Try.prog 29 #[.agg #[.int .i64 D.q, .int .i64 D.p, .int .i64 D.m, .int .i64 D.gen, .slice (some ⟨gm, 0, none⟩) (D.m + 1) cm], .slice so n sc, .slice ro lr rc, .int .i64 (L : Nat)] wx fun e w' => e = .returned (.bool true) ∧ Below wx.heap.size wx w') := fun wx hx =>
    rrules_any HH.out.1 D.gen gm cm (by omega) (HX.out.2.2.2.2.2.2.1.below hx HX.out.2.2.2.2.2.2.2) (HX.out.2.2.2.2.2.2.2.mono hx.size) (HX.out.2.2.2.2.1.below hx HX.out.2.2.2.2.2.1) (HX.out.2.2.2.2.2.1.mono hx.size) HH.out.2.2.1 H2.out.2.1.rul.el H2.out.2.2.2.2.2.1 H2.out.2.1.rul.one (by omega) hLn H2.out.2.2.2.2.2.2 (fun t h1 h2 => by
      have h := H2.out.2.1.gen t h1 h2
      rw [pmul_to (fld HH.out.1) s H2.out.2.2.2.2.1 (by omega)] at h; exact h) (HX.out.2.2.2.1.below hx)
  have HC3 : Hid (∀ wx, Below wa.heap.size wa wx → Calls Try.prog 30 #[.agg #[.int .i64 D.q, .int .i64 D.p, .int .i64 D.m, .int .i64 D.gen, .slice (some ⟨gm, 0, none⟩) (D.m + 1) cm], .slice so n sc, .int .i64 (L : Nat)] wx fun e w' => e = .returned (.bool true) ∧ Below wx.heap.size wx w') := fun wx hx =>
    rshortest_any HH.out.1 D.gen gm cm (by omega) (HX.out.2.2.2.2.2.2.1.below hx HX.out.2.2.2.2.2.2.2) (HX.out.2.2.2.2.2.2.2.mono hx.size) HH.out.2.2.1 hLn H2.out.2.1.min (HX.out.2.2.2.1.below hx)
  have HKp : Hid (∀ wx, Below wa.heap.size wa wx → Box w3.heap.size D D.gen (.slice (some ⟨gm, 0, none⟩) (D.m + 1) cm) wx) := fun wx hx => HX.out.1.below hx (by have := HX.out.2.1; omega)
  clear hlr1 hlcL
  go_wp2_with fail
  rw [← hwa]
  clear hwa
  refine HC1.out.mono ?_
  rintro e w4 ⟨rfl, hb4⟩
  have H4 : Hid (Below wa.heap.size wa w4) := hb4
  obtain ⟨k0, k1, k2, k3, k4⟩ := HKp.out _ hb4
  clear hb4
  go_wp2_with fail
  refine (HC2.out _ H4.out).mono ?_
  rintro e w5 ⟨rfl, hb5⟩
  have H5 : Hid (Below wa.heap.size wa w5) := bel_up' H4.out hb5
  clear hb5 k0 k1 k2 k3 k4
  obtain ⟨k0, k1, k2, k3, k4⟩ := HKp.out _ H5.out
  go_wp2_with fail
  refine (HC3.out _ H5.out).mono ?_
  rintro e w6 ⟨rfl, hb6⟩
  have H6 : Hid (Below w.heap.size w w6) := bel_up' HX.out.2.2.1 (bel_up' H5.out hb6)
  clear hb6 k0 k1 k2 k3 k4
  go_wp2
  go_ret
  exact ⟨rfl, H6.out⟩

theorem reedRules_walk (q : Int) {so : Option Addr} {n sc : Nat} {z : Nat → Int} {w : World} (hs : ArgL so n sc z w) (hn : n ≤ 17592186044416) :
    Calls Try.prog 6 #[.int .i64 q, .slice so n sc] w fun r w' => r = .returned (.bool true) ∧ Below w.heap.size w w' := by
  by_cases h1 : 24 < n ∧ n ≤ 128
  · exact rrr_mid q h1.1 h1.2
  · have hn2 : n ≤ 24 ∨ 128 < n := by omega
    by_cases h : ∃ D ∈ fieldsL, (D.q : Int) = q
    · obtain ⟨D, hD, rfl⟩ := h
      rcases hn2 with h2 | h2
      · have hA := hs.arg (by omega)
        by_cases h0 : D.chk n z = 0
        · exact rrr_any hD hA h0 h2
        · exact rrr_err D.q _ h0 (Or.inl h2) hn (polyMay_any hD hA.sl hA.lt hA.few) (fun w1 hb1 => massey_err D.q _ h0 (check_any hD (hA.below hb1).sl (hA.below hb1).lt (hA.below hb1).few))
      · exact rrr_err D.q 4 (by omega) (Or.inr h2) hn (polyMay_far hD h2 hn) (fun w1 _ => massey_err D.q 4 (by omega) (check_far hD h2 hn))
    · have hno : ∀ D ∈ fieldsL, (D.q : Int) ≠ q := fun D hD e => h ⟨D, hD, e⟩
      exact rrr_err q 1 (by omega) hn2 hn (polyMay_none q hno _ _ _ w) (fun w1 _ => massey_err q 1 (by omega) ((check_none q hno _ w1).mono fun e w' h => ⟨h.1, bel_of_eq h.2⟩))
end Go.Proofs.Ytnjbnamcedfjaaa

/- ReedRulesMade: the walk of the statement, whatever raw numbers it is given. -/
namespace Go.Proofs.Ytnjbnamcedfjaaa
open Go.RowKit Go.Sort

theorem pick_small {m : Int} {k : Nat} (hk : 0 < k) : ∃ M : Nat, pick m (k : Int) = (M : Int) ∧ M < k := by
  have h1 := pick_lo m (k : Int) (by omega)
  have h2 := pick_hi m (k : Int) (by omega)
  exact ⟨(pick m (k : Int)).toNat, by omega, by omega⟩

set_option maxHeartbeats 1000000 in
theorem reedRulesMade_long {ao : Option Addr} {n ca : Nat} (q m : Int) (w : World) (hn : ¬ n ≤ 256) (hn2 : n ≤ 17592186044416) :
    Calls Try.prog 7 #[.slice ao n ca, .int .i64 q, .int .i64 m] w fun r w' => r = .returned (.bool true) ∧ Below w.heap.size w w' := by
  have h1 : (256 : Int) < (n : Int) := by omega
  go_enter Try.func7, Try.ntmps7
  go_wp2
  go_ret
  exact ⟨rfl, Below.refl _ _⟩

set_option maxHeartbeats 4000000 in
set_option maxRecDepth 100000 in
theorem reedRulesMade_walk {ao : Option Addr} {n ca : Nat} {z : Nat → Int} (q m : Int) {w : World} (ha : Arg ao n ca z w) (hn : n ≤ 256) (hq : I64 q) (hm : I64 m) :
    Calls Try.prog 7 #[.slice ao n ca, .int .i64 q, .int .i64 m] w fun r w' => r = .returned (.bool true) ∧ Below w.heap.size w w' := by
  obtain ⟨D, hD, hDq⟩ := sizeOf_field q
  obtain ⟨M, hM0, hM1⟩ := pick_small (m := m) (k := 15) (by omega)
  have h64 := (fld hD).q64
  have h2q := (fld hD).q2
  have HA : Hid (Arg ao n ca z w) := ha
  have HS : Hid (∀ w : World, Calls Try.prog 31 #[.int .i64 q] w fun e w' => e = .returned (.int .i64 D.q) ∧ Below w.heap.size w w') := fun w => by rw [← hDq]; exact sizeOf_any q w hq.1 hq.2
  have HP1 : Hid (∀ w : World, Calls Try.prog 33 #[.int .i64 m, .int .i64 15] w fun e w' => e = .returned (.int .i64 M) ∧ w' = w) := fun w => by rw [← hM0]; exact pick_any m 15 w hm.1 hm.2 (by omega) (by omega)
  have HN1 : Hid (∀ w2, Below w.heap.size w w2 → Calls Try.prog 32 #[.slice ao n ca, .int .i64 0, .int .i64 D.q, .int .i64 M] w2 fun e w' => ∃ bo cb y, e = .returned (.slice bo M cb) ∧ ArgL bo M cb y w' ∧ Below w2.heap.size w2 w') := fun w2 hb2 => by
    refine (numbers_any (HA.out.below hb2) (by omega) 0 D.q M (by omega) (by omega) (by omega) (by omega)).mono ?_
    rintro e w' ⟨v, y, rfl, ho, hbl, hb⟩
    obtain ⟨bo, cb, rfl, hA⟩ := ho.argL
    exact ⟨bo, cb, y, rfl, hA, hb⟩
  clear hD hDq hM0 ha hq hm
  have hnb : ¬ (256 : Int) < (n : Int) := by omega
  go_enter Try.func7, Try.ntmps7
  go_wp2_with fail
  refine (HS.out w).mono ?_
  rintro e w1 ⟨rfl, hb1⟩
  have HB1 : Hid (Below w.heap.size w w1) := hb1
  clear hb1
  go_wp2_with fail
  refine (HP1.out w1).mono ?_
  rintro e w' ⟨rfl, hw⟩
  have hw := hw.symm
  subst hw
  go_wp2_with fail
  refine (HN1.out w1 HB1.out).mono ?_
  rintro e w2 ⟨bo, cb, y, rfl, hA2, hb2⟩
  have HB2 : Hid (Below w.heap.size w w2 ∧ ArgL bo M cb y w2) := ⟨bel_up' HB1.out hb2, hA2⟩
  clear hA2 hb2
  go_wp2_with fail
  refine (reedRules_walk D.q HB2.out.2 (by omega)).mono ?_
  rintro e w3 ⟨rfl, hb3⟩
  have HB3 : Hid (Below w.heap.size w w3) := bel_up' HB2.out.1 hb3
  clear hb3
  go_wp2
  go_ret
  exact ⟨rfl, HB3.out⟩
end Go.Proofs.Ytnjbnamcedfjaaa
