/- Trellises: Check, what is remembered, a sign; of both sides. -/
import Derived.Test.YtlljaliemldjkaaZKU1
import Derived.Test.YtlljaliemldjkaaZS33
namespace Go.Proofs.Ytlljaliemldjkaa
open Go.RowKit Go.Sort

/-- A rule that may be. -/
def isrl (x : Int) : Bool := decide (1 ≤ x ∧ x ≤ 31)
/-- What is wrong with rules. -/
def tck (R : Nat) (z : Nat → Int) : Int := if R < 1 ∨ 3 < R then 6 else if allP isrl z R = true then 0 else 2
theorem tck_ok {R : Nat} {z : Nat → Int} (h : tck R z = 0) : 1 ≤ R ∧ R ≤ 3 ∧ ∀ i, i < R → 1 ≤ z i ∧ z i ≤ 31 := by
  unfold tck at h
  by_cases h1 : R < 1 ∨ 3 < R
  · rw [if_pos h1] at h; cases h
  · rw [if_neg h1] at h
    by_cases h2 : allP isrl z R = true
    · exact ⟨by omega, by omega, fun i hi => of_decide_eq_true (allP_iff R h2 i hi)⟩
    · rw [if_neg h2] at h; cases h
set_option maxHeartbeats 4000000 in
set_option maxRecDepth 100000 in
theorem tcheck_any {ao : Option Addr} {R ca : Nat} {z : Nat → Int} {w : World} (hX : SlZ ao R z w) (hR : R ≤ 1000000) :
    Calls Try.prog 10 #[.slice ao R ca] w fun e w' => e = .returned (.int .i64 (tck R z)) ∧ w' = w := by
  obtain ⟨E, hE⟩ : ∃ E, E = tck R z := ⟨_, rfl⟩
  rw [← hE]
  by_cases h1 : R < 1
  · have HV : Hid (E = 6) := by show E = 6; rw [hE]; unfold tck; rw [if_pos (Or.inl h1)]
    have e0 : R = 0 := by omega
    subst e0
    clear hE h1 hX
    go_enter Try.func10, Try.ntmps10
    go_wp2
    go_ret
    exact ⟨by rw [HV.out]; rfl, rfl⟩
  · have a1 : ¬ (R : Int) < 1 := by omega
    by_cases h2 : 3 < R
    · have HV : Hid (E = 6) := by show E = 6; rw [hE]; unfold tck; rw [if_pos (Or.inr h2)]
      have a2 : (3 : Int) < (R : Int) := by omega
      clear hE h2 hX
      go_enter Try.func10, Try.ntmps10
      go_wp2
      go_ret
      exact ⟨by rw [HV.out]; rfl, rfl⟩
    · have a2 : ¬ (3 : Int) < (R : Int) := by omega
      have HX : Hid (SlZ ao R z w ∧ E = if allP isrl z R = true then 0 else 2) := ⟨hX, by show E = _; rw [hE]; unfold tck; rw [if_neg (by omega)]⟩
      clear hE hX
      go_enter Try.func10, Try.ntmps10
      go_wp2
      go_loopw [15] (fun vi wr => ∃ i : Nat, vi = .int .i64 (i : Nat) ∧ i ≤ R ∧ Hid (allP isrl z i = true ∧ wr = w)) (fun vi _ => R - (intOf vi).toNat)
      case atStart => exact ⟨0, rfl, by omega, rfl, rfl⟩
      case round =>
        obtain ⟨i, rfl, hi, HI⟩ := hrel
        have hw := HI.out.2.symm
        subst hw
        by_cases hlt : i < R
        · have hib : (i : Int) < (R : Int) := by omega
          have hib0 : (0 : Int) ≤ (i : Int) := by omega
          obtain ⟨b, off, e1, hcell⟩ := HX.out.1 i hlt
          subst e1
          obtain ⟨v, hv⟩ : ∃ v, v = z i := ⟨_, rfl⟩
          rw [← hv] at hcell
          by_cases c1 : v < 1
          · have HV : Hid (E = 2) := by
              show E = 2
              rw [HX.out.2, if_neg (by rw [allP_no (p := isrl) (i := i) (by rw [← hv]; exact decide_eq_false (by omega)) R hlt]; decide)]
            clear hv
            go_wp2
            go_ret
            exact ⟨by rw [HV.out]; rfl, rfl⟩
          · by_cases c2 : 32 ≤ v
            · have c3 : v ≥ 32 := c2
              have HV : Hid (E = 2) := by
                show E = 2
                rw [HX.out.2, if_neg (by rw [allP_no (p := isrl) (i := i) (by rw [← hv]; exact decide_eq_false (by omega)) R hlt]; decide)]
              clear hv
              go_wp2
              go_ret
              exact ⟨by rw [HV.out]; rfl, rfl⟩
            · have c3 : ¬ v ≥ 32 := c2
              have HN : Hid (allP isrl z (i + 1) = true) := by
                show (allP isrl z i && isrl (z i)) = true
                rw [HI.out.1, ← hv]; exact decide_eq_true (by omega)
              clear hv
              go_wp2
              go_roundw
              case rel => exact ⟨i + 1, by go_num, by omega, HN.out, by first | rfl | trivial⟩
              case measure => simp [intOf]; omega
        · have hib : ¬ (i : Int) < (R : Int) := by omega
          have hie : i = R := by omega
          subst hie
          have HV : Hid (E = 0) := by show E = 0; rw [HX.out.2, if_pos HI.out.1]
          go_wp2
          go_ret
          exact ⟨by rw [HV.out]; rfl, rfl⟩
set_option maxHeartbeats 4000000 in
set_option maxRecDepth 100000 in
theorem rtmay_any {ao : Option Addr} {R ca : Nat} {z : Nat → Int} {w : World} (hX : SlZ ao R z w) (hR : R ≤ 1000000) :
    Calls Try.prog 6 #[.slice ao R ca] w fun e w' => e = .returned (.int .i64 (tck R z)) ∧ w' = w := by
  obtain ⟨E, hE⟩ : ∃ E, E = tck R z := ⟨_, rfl⟩
  rw [← hE]
  by_cases h1 : R < 1
  · have HV : Hid (E = 6) := by show E = 6; rw [hE]; unfold tck; rw [if_pos (Or.inl h1)]
    have e0 : R = 0 := by omega
    subst e0
    clear hE h1 hX
    go_enter Try.func6, Try.ntmps6
    go_wp2
    go_ret
    exact ⟨by rw [HV.out]; rfl, rfl⟩
  · have a1 : ¬ (R : Int) < 1 := by omega
    by_cases h2 : 3 < R
    · have HV : Hid (E = 6) := by show E = 6; rw [hE]; unfold tck; rw [if_pos (Or.inr h2)]
      have a2 : (3 : Int) < (R : Int) := by omega
      clear hE h2 hX
      go_enter Try.func6, Try.ntmps6
      go_wp2
      go_ret
      exact ⟨by rw [HV.out]; rfl, rfl⟩
    · have a2 : ¬ (3 : Int) < (R : Int) := by omega
      have HX : Hid (SlZ ao R z w ∧ E = if allP isrl z R = true then 0 else 2) := ⟨hX, by show E = _; rw [hE]; unfold tck; rw [if_neg (by omega)]⟩
      clear hE hX
      go_enter Try.func6, Try.ntmps6
      go_wp2
      go_loopw [3] (fun vi wr => ∃ i : Nat, vi = .int .i64 (i : Nat) ∧ i ≤ R ∧ Hid (allP isrl z i = true ∧ wr = w)) (fun vi _ => R - (intOf vi).toNat)
      case atStart => exact ⟨0, rfl, by omega, rfl, rfl⟩
      case round =>
        obtain ⟨i, rfl, hi, HI⟩ := hrel
        have hw := HI.out.2.symm
        subst hw
        by_cases hlt : i < R
        · have hib : (i : Int) < (R : Int) := by omega
          have hib0 : (0 : Int) ≤ (i : Int) := by omega
          obtain ⟨b, off, e1, hcell⟩ := HX.out.1 i hlt
          subst e1
          obtain ⟨v, hv⟩ : ∃ v, v = z i := ⟨_, rfl⟩
          rw [← hv] at hcell
          by_cases c1 : v < 1
          · have HV : Hid (E = 2) := by
              show E = 2
              rw [HX.out.2, if_neg (by rw [allP_no (p := isrl) (i := i) (by rw [← hv]; exact decide_eq_false (by omega)) R hlt]; decide)]
            clear hv
            go_wp2
            go_ret
            exact ⟨by rw [HV.out]; rfl, rfl⟩
          · by_cases c2 : 31 < v
            · have c3 : v > 31 := c2
              have HV : Hid (E = 2) := by
                show E = 2
                rw [HX.out.2, if_neg (by rw [allP_no (p := isrl) (i := i) (by rw [← hv]; exact decide_eq_false (by omega)) R hlt]; decide)]
              clear hv
              go_wp2
              go_ret
              exact ⟨by rw [HV.out]; rfl, rfl⟩
            · have c3 : ¬ v > 31 := c2
              have HN : Hid (allP isrl z (i + 1) = true) := by
                show (allP isrl z i && isrl (z i)) = true
                rw [HI.out.1, ← hv]; exact decide_eq_true (by omega)
              clear hv
              go_wp2
              go_roundw
              case rel => exact ⟨i + 1, by go_num, by omega, HN.out, by first | rfl | trivial⟩
              case measure => simp [intOf]; omega
        · have hib : ¬ (i : Int) < (R : Int) := by omega
          have hie : i = R := by omega
          subst hie
          have HV : Hid (E = 0) := by show E = 0; rw [HX.out.2, if_pos HI.out.1]
          go_wp2
          go_ret
          exact ⟨by rw [HV.out]; rfl, rfl⟩
end Go.Proofs.Ytlljaliemldjkaa
