/- Trellises: of how many bits signs would be, by both sides (printed by make/kv6.py). -/
import Derived.Test.YtlljaliemldjkaaZKV5
import Derived.Test.YtlljaliemldjkaaZS33
namespace Go.Proofs.Ytlljaliemldjkaa
open Go.RowKit Go.Sort

/-- What is wrong with signs. -/
def lgE (M R l : Nat) (y : Nat → Int) : Int := if l % R ≠ 0 ∨ l / R < M then 6 else if 20 < l / R - M then 4 else if allP isbt y l = true then 0 else 2
/-- Of how many bits they are. -/
def lgN (M R l : Nat) (y : Nat → Int) : Nat := if lgE M R l y = 0 then l / R - M else 0
theorem lgE_ok {M R l : Nat} {y : Nat → Int} (h : lgE M R l y = 0) : l = R * (lgN M R l y + M) ∧ lgN M R l y ≤ 20 ∧ allP isbt y l = true := by
  have hN : lgN M R l y = l / R - M := by unfold lgN; rw [if_pos h]
  rw [hN]
  unfold lgE at h
  by_cases h1 : l % R ≠ 0 ∨ l / R < M
  · rw [if_pos h1] at h; cases h
  · rw [if_neg h1] at h
    by_cases h2 : 20 < l / R - M
    · rw [if_pos h2] at h; cases h
    · rw [if_neg h2] at h
      by_cases h3 : allP isbt y l = true
      · refine ⟨?_, by omega, h3⟩
        have h4 : l % R = 0 := Classical.byContradiction fun q => h1 (Or.inl q)
        have h5 := Nat.div_add_mod l R
        rw [show l / R - M + M = l / R by omega]
        omega
      · rw [if_neg h3] at h; cases h
theorem RlZ.tck {ao : Option Addr} {R : Nat} {z : Nat → Nat} {w : World} (hX : RlZ ao R z w) : Go.Proofs.Ytlljaliemldjkaa.tck R (fun i => ((z i : Nat) : Int)) = 0 := by
  unfold Go.Proofs.Ytlljaliemldjkaa.tck
  have h1 := hX.one
  have h2 := hX.few
  rw [if_neg (by omega), if_pos (allP_mk R fun i hi => decide_eq_true (by have := hX.lo i hi; have := hX.hi i hi; omega))]

set_option maxHeartbeats 2000000 in
set_option maxRecDepth 100000 in
theorem tlength_e1 {E : Int} (hE : E ≠ 0) {ao so : Option Addr} {R ca l sc : Nat} {w : World} (hC : Calls Try.prog 10 #[.slice ao R ca] w fun e w' => e = .returned (.int .i64 E) ∧ w' = w) :
    Calls Try.prog 13 #[.slice ao R ca, .slice so l sc] w fun e w' => e = .returned (.tuple #[.int .i64 0, .int .i64 E]) ∧ w' = w := by
  have HC : Hid (Calls Try.prog 10 #[.slice ao R ca] w fun e w' => e = .returned (.int .i64 E) ∧ w' = w) := hC
  have hz : (E != 0) = true := bne_iff_ne.2 hE
  clear hC
  go_enter Try.func13, Try.ntmps13
  go_wp2_with fail
  refine HC.out.mono ?_
  rintro e w' ⟨rfl, hw⟩
  have hw := hw.symm
  subst hw
  go_wp2
  go_ret2
  exact ⟨rfl, rfl⟩
set_option maxHeartbeats 8000000 in
set_option maxRecDepth 100000 in
theorem tlength_any {ao so : Option Addr} {R ca l sc : Nat} {z : Nat → Nat} {y : Nat → Int} {w : World} (hX : RlZ ao R z w) (hY : SlZ so l y w) (hl : l ≤ 1000) :
    Calls Try.prog 13 #[.slice ao R ca, .slice so l sc] w fun e w' => e = .returned (.tuple #[.int .i64 (lgN (mmr z R) R l y : Nat), .int .i64 (lgE (mmr z R) R l y)]) ∧ ∃ d, w' = w.drewN d := by
  have hR1 := hX.one
  have hR3 := hX.few
  have HC : Hid (Calls Try.prog 10 #[.slice ao R ca] w fun e w' => e = .returned (.int .i64 0) ∧ w' = w) := by
    have h := tcheck_any (ca := ca) hX.sl (by omega)
    rw [hX.tck] at h
    exact h
  obtain ⟨M, hMe⟩ : ∃ M, M = mmr z R := ⟨_, rfl⟩
  have hM4 : M ≤ 4 := by rw [hMe]; exact mmr_le z R
  have HMm : Hid (∀ d, Calls Try.prog 27 #[.slice ao R ca] (w.drewN d) fun e w' => e = .returned (.int .i64 (M : Nat)) ∧ w' = w.drewN d) := fun d => by rw [hMe]; exact tmemory_any (⟨fun i hi => hX.sl i hi, hX.one, hX.few, hX.lo, hX.hi⟩ : RlZ ao R z (w.drewN d))
  rw [← hMe]
  obtain ⟨bt, hbt⟩ : ∃ bt, bt = allP isbt y l := ⟨_, rfl⟩
  have HB : Hid (∀ d, Calls Try.prog 26 #[.slice so l sc] (w.drewN d) fun e w' => e = .returned (.bool bt) ∧ w' = w.drewN d) := fun d => by
    have hY : SlZ so l y (w.drewN d) := fun i hi => hY i hi
    rw [hbt]; exact bAll_any (cap := sc) hY (by omega)
  obtain ⟨N, hN⟩ : ∃ N, N = lgN M R l y := ⟨_, rfl⟩
  obtain ⟨E, hE⟩ : ∃ E, E = lgE M R l y := ⟨_, rfl⟩
  obtain ⟨q, hq⟩ : ∃ q, q = l / R := ⟨_, rfl⟩
  obtain ⟨rm, hrm⟩ : ∃ rm, rm = l % R := ⟨_, rfl⟩
  have HE : Hid (E = (if rm ≠ 0 ∨ q < M then 6 else if 20 < q - M then 4 else if bt = true then 0 else 2) ∧ N = if E = 0 then q - M else 0) := ⟨by rw [hE, hrm, hq, hbt]; rfl, by rw [hN, hE, hq]; rfl⟩
  rw [← hN, ← hE]
  have hqb : q ≤ 1000 := by rw [hq]; exact Nat.le_trans (Nat.div_le_self _ _) hl
  have hq1 : (l : Int).tdiv (R : Int) = (q : Int) := by rw [hq]; exact Int.ofNat_tdiv l R |>.symm
  have hq2 : (l : Int) / (R : Int) = (q : Int) := by rw [hq]; simp
  have hr1 : (l : Int).tmod (R : Int) = (rm : Int) := by rw [hrm]; exact Int.ofNat_tmod l R |>.symm
  have hr2 : (l : Int) % (R : Int) = (rm : Int) := by rw [hrm]; simp
  have hR0 : ¬ (R : Int) = 0 := by omega
  have hR00 : ¬ R = 0 := by omega
  clear hX hY hMe hbt hN hE hq hrm
  go_enter Try.func13, Try.ntmps13
  go_wp2_with fail
  refine HC.out.mono ?_
  rintro e w' ⟨rfl, hw⟩
  have hw := hw.symm
  subst hw
  by_cases h1 : rm = 0
  · have z1 : ((rm : Int) != 0) = false := by rw [h1]; rfl
    by_cases h2 : q < M
    · obtain ⟨d, hd⟩ : ∃ d : Int, d = (q : Int) - (M : Int) := ⟨_, rfl⟩
      have hdq : (q : Int) - (M : Int) = d := hd.symm
      have hdw : IntKind.i64.wrap d = d := wrap_neg (by omega) (by omega)
      have hd0 : d < 0 := by omega
      have hE6 : E = 6 := by rw [HE.out.1, if_pos (Or.inr h2)]
      have HN0 : Hid (N = 0) := by show N = 0; rw [HE.out.2, hE6]; rfl
      subst hE6
      clear hd h1 h2 HE
      go_wp2
      go_big_quiet (first | (go_at_call 27; exact Calls.quiet_of_same (HMm.out _)))
      generalize hwq : World.drewN w _ = wQ
      have HQ : Hid (∃ d, wQ = w.drewN d) := ⟨_, hwq.symm⟩
      clear hwq
      go_wp2
      go_ret2
      exact ⟨by rw [HN0.out]; rfl, HQ.out⟩
    · obtain ⟨d, hd⟩ : ∃ d, d = q - M := ⟨_, rfl⟩
      have hdq : (q : Int) - (M : Int) = (d : Int) := by omega
      have hdw : IntKind.i64.wrap (d : Int) = (d : Int) := wrap_to rfl (by omega)
      have hd0 : ¬ (d : Int) < 0 := by omega
      by_cases h3 : 20 < d
      · have h3i : (20 : Int) < (d : Int) := by omega
        have hE4 : E = 4 := by rw [HE.out.1, if_neg (fun h => h.elim (fun h => h h1) h2), if_pos (by omega)]
        have HN0 : Hid (N = 0) := by show N = 0; rw [HE.out.2, hE4]; rfl
        subst hE4
        clear hd h1 h2 HE
        go_wp2
        go_big_quiet (first | (go_at_call 27; exact Calls.quiet_of_same (HMm.out _)))
        generalize hwq : World.drewN w _ = wQ
        have HQ : Hid (∃ d, wQ = w.drewN d) := ⟨_, hwq.symm⟩
        clear hwq
        go_wp2
        go_ret2
        exact ⟨by rw [HN0.out]; rfl, HQ.out⟩
      · have h3i : ¬ (20 : Int) < (d : Int) := by omega
        have hEb : E = if bt = true then 0 else 2 := by rw [HE.out.1, if_neg (fun h => h.elim (fun h => h h1) h2), if_neg (by omega)]
        cases bt with
        | true =>
          have hE0 : E = 0 := hEb
          have HN0 : Hid (N = d) := by show N = d; rw [HE.out.2, if_pos hE0, hd]
          subst hE0
          clear hd h1 h2 HE hEb
          go_wp2
          go_big_quiet (first | (go_at_call 27; exact Calls.quiet_of_same (HMm.out _)))
          generalize hwq : World.drewN w _ = wQ
          have HQ : Hid (∃ d, wQ = w.drewN d) := ⟨_, hwq.symm⟩
          clear hwq
          obtain ⟨dQ, hdQ⟩ := HQ.out
          have HB2 : Hid (Calls Try.prog 26 #[.slice so l sc] wQ fun e w' => e = .returned (.bool true) ∧ w' = wQ) := by rw [hdQ]; exact HB.out dQ
          clear hdQ
          go_wp2_with fail
          refine HB2.out.mono ?_
          rintro e w' ⟨rfl, hw⟩
          have hw := hw.symm
          subst hw
          go_wp2
          go_ret2
          exact ⟨by rw [HN0.out]; rfl, HQ.out⟩
        | false =>
          have hE2 : E = 2 := hEb
          have HN0 : Hid (N = 0) := by show N = 0; rw [HE.out.2, hE2]; rfl
          subst hE2
          clear hd h1 h2 HE hEb
          go_wp2
          go_big_quiet (first | (go_at_call 27; exact Calls.quiet_of_same (HMm.out _)))
          generalize hwq : World.drewN w _ = wQ
          have HQ : Hid (∃ d, wQ = w.drewN d) := ⟨_, hwq.symm⟩
          clear hwq
          obtain ⟨dQ, hdQ⟩ := HQ.out
          have HB2 : Hid (Calls Try.prog 26 #[.slice so l sc] wQ fun e w' => e = .returned (.bool false) ∧ w' = wQ) := by rw [hdQ]; exact HB.out dQ
          clear hdQ
          go_wp2_with fail
          refine HB2.out.mono ?_
          rintro e w' ⟨rfl, hw⟩
          have hw := hw.symm
          subst hw
          go_wp2
          go_ret2
          exact ⟨by rw [HN0.out]; rfl, HQ.out⟩
  · have z1 : ((rm : Int) != 0) = true := bne_iff_ne.2 (by omega)
    obtain ⟨d, hd⟩ : ∃ d : Int, d = (q : Int) - (M : Int) := ⟨_, rfl⟩
    have hdq : (q : Int) - (M : Int) = d := hd.symm
    have hdw : IntKind.i64.wrap d = d := wrap_neg (by omega) (by omega)
    have hE6 : E = 6 := by rw [HE.out.1, if_pos (Or.inl h1)]
    have HN0 : Hid (N = 0) := by show N = 0; rw [HE.out.2, hE6]; rfl
    subst hE6
    clear hd h1 HE
    go_wp2
    go_big_quiet (first | (go_at_call 27; exact Calls.quiet_of_same (HMm.out _)))
    generalize hwq : World.drewN w _ = wQ
    have HQ : Hid (∃ d, wQ = w.drewN d) := ⟨_, hwq.symm⟩
    clear hwq
    go_wp2
    go_ret2
    exact ⟨by rw [HN0.out]; rfl, HQ.out⟩

set_option maxHeartbeats 2000000 in
set_option maxRecDepth 100000 in
theorem rsmay_e1 {E : Int} (hE : E ≠ 0) {ao so : Option Addr} {R ca l sc : Nat} {w : World} (hC : Calls Try.prog 6 #[.slice ao R ca] w fun e w' => e = .returned (.int .i64 E) ∧ w' = w) :
    Calls Try.prog 12 #[.slice ao R ca, .slice so l sc] w fun e w' => e = .returned (.tuple #[.int .i64 0, .int .i64 E]) ∧ w' = w := by
  have HC : Hid (Calls Try.prog 6 #[.slice ao R ca] w fun e w' => e = .returned (.int .i64 E) ∧ w' = w) := hC
  have hz : (E != 0) = true := bne_iff_ne.2 hE
  clear hC
  go_enter Try.func12, Try.ntmps12
  go_wp2_with fail
  refine HC.out.mono ?_
  rintro e w' ⟨rfl, hw⟩
  have hw := hw.symm
  subst hw
  go_wp2
  go_ret2
  exact ⟨rfl, rfl⟩
set_option maxHeartbeats 8000000 in
set_option maxRecDepth 100000 in
theorem rsmay_any {ao so : Option Addr} {R ca l sc : Nat} {z : Nat → Nat} {y : Nat → Int} {w : World} (hX : RlZ ao R z w) (hY : SlZ so l y w) (hl : l ≤ 1000) :
    Calls Try.prog 12 #[.slice ao R ca, .slice so l sc] w fun e w' => e = .returned (.tuple #[.int .i64 (lgN (mmr z R) R l y : Nat), .int .i64 (lgE (mmr z R) R l y)]) ∧ ∃ d, w' = w.drewN d := by
  have hR1 := hX.one
  have hR3 := hX.few
  have HC : Hid (Calls Try.prog 6 #[.slice ao R ca] w fun e w' => e = .returned (.int .i64 0) ∧ w' = w) := by
    have h := rtmay_any (ca := ca) hX.sl (by omega)
    rw [hX.tck] at h
    exact h
  obtain ⟨M, hMe⟩ : ∃ M, M = mmr z R := ⟨_, rfl⟩
  have hM4 : M ≤ 4 := by rw [hMe]; exact mmr_le z R
  have HMm : Hid (∀ d, Calls Try.prog 25 #[.slice ao R ca] (w.drewN d) fun e w' => e = .returned (.int .i64 (M : Nat)) ∧ w' = w.drewN d) := fun d => by rw [hMe]; exact rmemory_any (⟨fun i hi => hX.sl i hi, hX.one, hX.few, hX.lo, hX.hi⟩ : RlZ ao R z (w.drewN d))
  rw [← hMe]
  obtain ⟨bt, hbt⟩ : ∃ bt, bt = allP isbt y l := ⟨_, rfl⟩
  have HB : Hid (∀ d, Calls Try.prog 7 #[.slice so l sc, .bool false] (w.drewN d) fun e w' => e = .returned (.bool bt) ∧ w' = w.drewN d) := fun d => by
    have hY : SlZ so l y (w.drewN d) := fun i hi => hY i hi
    rw [hbt]; exact rbits_any (cap := sc) false hY (by omega)
  obtain ⟨N, hN⟩ : ∃ N, N = lgN M R l y := ⟨_, rfl⟩
  obtain ⟨E, hE⟩ : ∃ E, E = lgE M R l y := ⟨_, rfl⟩
  obtain ⟨q, hq⟩ : ∃ q, q = l / R := ⟨_, rfl⟩
  obtain ⟨rm, hrm⟩ : ∃ rm, rm = l % R := ⟨_, rfl⟩
  have HE : Hid (E = (if rm ≠ 0 ∨ q < M then 6 else if 20 < q - M then 4 else if bt = true then 0 else 2) ∧ N = if E = 0 then q - M else 0) := ⟨by rw [hE, hrm, hq, hbt]; rfl, by rw [hN, hE, hq]; rfl⟩
  rw [← hN, ← hE]
  have hqb : q ≤ 1000 := by rw [hq]; exact Nat.le_trans (Nat.div_le_self _ _) hl
  have hq1 : (l : Int).tdiv (R : Int) = (q : Int) := by rw [hq]; exact Int.ofNat_tdiv l R |>.symm
  have hq2 : (l : Int) / (R : Int) = (q : Int) := by rw [hq]; simp
  have hr1 : (l : Int).tmod (R : Int) = (rm : Int) := by rw [hrm]; exact Int.ofNat_tmod l R |>.symm
  have hr2 : (l : Int) % (R : Int) = (rm : Int) := by rw [hrm]; simp
  have hR0 : ¬ (R : Int) = 0 := by omega
  have hR00 : ¬ R = 0 := by omega
  clear hX hY hMe hbt hN hE hq hrm
  go_enter Try.func12, Try.ntmps12
  go_wp2_with fail
  refine HC.out.mono ?_
  rintro e w' ⟨rfl, hw⟩
  have hw := hw.symm
  subst hw
  by_cases h1 : rm = 0
  · have z1 : ((rm : Int) != 0) = false := by rw [h1]; rfl
    by_cases h2 : q < M
    · obtain ⟨d, hd⟩ : ∃ d : Int, d = (q : Int) - (M : Int) := ⟨_, rfl⟩
      have hdq : (q : Int) - (M : Int) = d := hd.symm
      have hdw : IntKind.i64.wrap d = d := wrap_neg (by omega) (by omega)
      have hd0 : d < 0 := by omega
      have hE6 : E = 6 := by rw [HE.out.1, if_pos (Or.inr h2)]
      have HN0 : Hid (N = 0) := by show N = 0; rw [HE.out.2, hE6]; rfl
      subst hE6
      clear hd h1 h2 HE
      go_wp2
      go_big_quiet (first | (go_at_call 25; exact Calls.quiet_of_same (HMm.out _)))
      generalize hwq : World.drewN w _ = wQ
      have HQ : Hid (∃ d, wQ = w.drewN d) := ⟨_, hwq.symm⟩
      clear hwq
      go_wp2
      go_ret2
      exact ⟨by rw [HN0.out]; rfl, HQ.out⟩
    · obtain ⟨d, hd⟩ : ∃ d, d = q - M := ⟨_, rfl⟩
      have hdq : (q : Int) - (M : Int) = (d : Int) := by omega
      have hdw : IntKind.i64.wrap (d : Int) = (d : Int) := wrap_to rfl (by omega)
      have hd0 : ¬ (d : Int) < 0 := by omega
      by_cases h3 : 20 < d
      · have h3i : (20 : Int) < (d : Int) := by omega
        have hE4 : E = 4 := by rw [HE.out.1, if_neg (fun h => h.elim (fun h => h h1) h2), if_pos (by omega)]
        have HN0 : Hid (N = 0) := by show N = 0; rw [HE.out.2, hE4]; rfl
        subst hE4
        clear hd h1 h2 HE
        go_wp2
        go_big_quiet (first | (go_at_call 25; exact Calls.quiet_of_same (HMm.out _)))
        generalize hwq : World.drewN w _ = wQ
        have HQ : Hid (∃ d, wQ = w.drewN d) := ⟨_, hwq.symm⟩
        clear hwq
        go_wp2
        go_ret2
        exact ⟨by rw [HN0.out]; rfl, HQ.out⟩
      · have h3i : ¬ (20 : Int) < (d : Int) := by omega
        have hEb : E = if bt = true then 0 else 2 := by rw [HE.out.1, if_neg (fun h => h.elim (fun h => h h1) h2), if_neg (by omega)]
        cases bt with
        | true =>
          have hE0 : E = 0 := hEb
          have HN0 : Hid (N = d) := by show N = d; rw [HE.out.2, if_pos hE0, hd]
          subst hE0
          clear hd h1 h2 HE hEb
          go_wp2
          go_big_quiet (first | (go_at_call 25; exact Calls.quiet_of_same (HMm.out _)))
          generalize hwq : World.drewN w _ = wQ
          have HQ : Hid (∃ d, wQ = w.drewN d) := ⟨_, hwq.symm⟩
          clear hwq
          obtain ⟨dQ, hdQ⟩ := HQ.out
          have HB2 : Hid (Calls Try.prog 7 #[.slice so l sc, .bool false] wQ fun e w' => e = .returned (.bool true) ∧ w' = wQ) := by rw [hdQ]; exact HB.out dQ
          clear hdQ
          go_wp2_with fail
          refine HB2.out.mono ?_
          rintro e w' ⟨rfl, hw⟩
          have hw := hw.symm
          subst hw
          go_wp2
          go_ret2
          exact ⟨by rw [HN0.out]; rfl, HQ.out⟩
        | false =>
          have hE2 : E = 2 := hEb
          have HN0 : Hid (N = 0) := by show N = 0; rw [HE.out.2, hE2]; rfl
          subst hE2
          clear hd h1 h2 HE hEb
          go_wp2
          go_big_quiet (first | (go_at_call 25; exact Calls.quiet_of_same (HMm.out _)))
          generalize hwq : World.drewN w _ = wQ
          have HQ : Hid (∃ d, wQ = w.drewN d) := ⟨_, hwq.symm⟩
          clear hwq
          obtain ⟨dQ, hdQ⟩ := HQ.out
          have HB2 : Hid (Calls Try.prog 7 #[.slice so l sc, .bool false] wQ fun e w' => e = .returned (.bool false) ∧ w' = wQ) := by rw [hdQ]; exact HB.out dQ
          clear hdQ
          go_wp2_with fail
          refine HB2.out.mono ?_
          rintro e w' ⟨rfl, hw⟩
          have hw := hw.symm
          subst hw
          go_wp2
          go_ret2
          exact ⟨by rw [HN0.out]; rfl, HQ.out⟩
  · have z1 : ((rm : Int) != 0) = true := bne_iff_ne.2 (by omega)
    obtain ⟨d, hd⟩ : ∃ d : Int, d = (q : Int) - (M : Int) := ⟨_, rfl⟩
    have hdq : (q : Int) - (M : Int) = d := hd.symm
    have hdw : IntKind.i64.wrap d = d := wrap_neg (by omega) (by omega)
    have hE6 : E = 6 := by rw [HE.out.1, if_pos (Or.inl h1)]
    have HN0 : Hid (N = 0) := by show N = 0; rw [HE.out.2, hE6]; rfl
    subst hE6
    clear hd h1 HE
    go_wp2
    go_big_quiet (first | (go_at_call 25; exact Calls.quiet_of_same (HMm.out _)))
    generalize hwq : World.drewN w _ = wQ
    have HQ : Hid (∃ d, wQ = w.drewN d) := ⟨_, hwq.symm⟩
    clear hwq
    go_wp2
    go_ret2
    exact ⟨by rw [HN0.out]; rfl, HQ.out⟩
end Go.Proofs.Ytlljaliemldjkaa
