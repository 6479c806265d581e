/- Codes of few checks: which checks may be (the program's Check, the reference's ChecksMay). -/
import Derived.Test.YtjkncdmbcckcdaaZS33
import Derived.Test.YtjkncdmbcckcdaaZW9
namespace Go.Proofs.Ytjkncdmbcckcdaa
open Go.RowKit Go.Sort

/-- The place ahead of place j. -/
def ahd (z : Nat → Int) (j : Nat) : Int := if j = 0 then -1 else z (j - 1)
theorem crow_err {n : Int} {z : Nat → Int} {j m : Nat} {e : Int} (h0 : crow n z j = 0) (he : e ≠ 0) (h : (if z j < 0 ∨ n ≤ z j then 10 else if 0 < j ∧ z j ≤ z (j - 1) then 3 else 0) = e) (hj : j < m) : crow n z m = e := by
  have h1 : crow n z (j + 1) = e := by
    show (if crow n z j ≠ 0 then crow n z j else _) = e
    rw [if_neg (fun x => x h0)]; exact h
  rw [crow_to (m := j + 1) (by rw [h1]; exact he) (by omega), h1]
theorem crow_next {n : Int} {z : Nat → Int} {j : Nat} (h0 : crow n z j = 0) (h1 : ¬ (z j < 0 ∨ n ≤ z j)) (h2 : ¬ (0 < j ∧ z j ≤ z (j - 1))) : crow n z (j + 1) = 0 := by
  show (if crow n z j ≠ 0 then crow n z j else _) = 0
  rw [if_neg (fun x => x h0), if_neg h1, if_neg h2]
theorem crows_err {n : Int} {N : Nat → Nat} {Z : Nat → Nat → Int} {i m : Nat} {e : Int} (h0 : crows n N Z i = 0) (he : e ≠ 0) (h : crow n (Z i) (N i) = e) (hi : i < m) : crows n N Z m = e := by
  have h1 : crows n N Z (i + 1) = e := by
    show (if crows n N Z i ≠ 0 then crows n N Z i else _) = e
    rw [if_neg (fun x => x h0)]; exact h
  rw [crows_to (m := i + 1) (by rw [h1]; exact he) (by omega), h1]
theorem crows_next {n : Int} {N : Nat → Nat} {Z : Nat → Nat → Int} {i : Nat} (h0 : crows n N Z i = 0) (h : crow n (Z i) (N i) = 0) : crows n N Z (i + 1) = 0 := by
  show (if crows n N Z i ≠ 0 then crows n N Z i else _) = 0
  rw [if_neg (fun x => x h0)]; exact h

set_option maxHeartbeats 8000000 in
set_option maxRecDepth 100000 in
theorem scheck_any (n : Int) {ao : Option Addr} {m ca : Nat} {A : Nat → Option Addr} {N C : Nat → Nat} {Z : Nat → Nat → Int} {w : World} (hA : MatZ ao m A N C Z w) (hm : m ≤ 1000000) :
    Calls Try.prog 29 #[.int .i64 n, .slice ao m ca] w fun e w' => e = .returned (.int .i64 (schk n m N Z)) ∧ w' = w := by
  obtain ⟨E, hE⟩ : ∃ E, E = schk n m N Z := ⟨_, rfl⟩
  have HA : Hid (MatZ ao m A N C Z w ∧ E = schk n m N Z) := ⟨hA, hE⟩
  rw [← hE]
  clear hA hE
  by_cases h1 : n < 1
  · have HE : Hid (E = 4) := by show _ = _; rw [HA.out.2]; unfold schk; rw [if_pos (Or.inl h1)]
    go_enter Try.func29, Try.ntmps29
    go_wp2
    go_ret
    exact ⟨by (first | (rw [HE.out]; rfl) | rw [HE.out]), rfl⟩
  · by_cases h2 : 64 < n
    · have HE : Hid (E = 4) := by show _ = _; rw [HA.out.2]; unfold schk; rw [if_pos (Or.inr (Or.inl h2))]
      have h2' : n > 64 := h2
      go_enter Try.func29, Try.ntmps29
      go_wp2
      go_ret
      exact ⟨by (first | (rw [HE.out]; rfl) | rw [HE.out]), rfl⟩
    · have h2' : ¬ n > 64 := h2
      by_cases h3 : 64 < m
      · have HE : Hid (E = 4) := by show _ = _; rw [HA.out.2]; unfold schk; rw [if_pos (Or.inr (Or.inr h3))]
        have h3' : (64 : Int) < (m : Int) := by omega
        have h3'' : (m : Int) > 64 := h3'
        go_enter Try.func29, Try.ntmps29
        go_wp2
        go_ret
        exact ⟨by (first | (rw [HE.out]; rfl) | rw [HE.out]), rfl⟩
      · have HE : Hid (E = crows n N Z m) := by show _ = _; rw [HA.out.2]; unfold schk; rw [if_neg (by omega)]
        have h3' : ¬ (64 : Int) < (m : Int) := by omega
        have h3'' : ¬ (m : Int) > 64 := h3'
        go_enter Try.func29, Try.ntmps29
        go_wp2
        go_loopw [23] (fun vi wx => ∃ i : Nat, i ≤ m ∧ vi = .int .i64 (i : Nat) ∧ Hid (crows n N Z i = 0) ∧ wx = w) (fun vi _ => m - (intOf vi).toNat)
        case atStart => exact ⟨0, by omega, rfl, rfl, rfl⟩
        case round =>
          obtain ⟨i, hi, rfl, HG, hwx⟩ := hrel
          have hwx := hwx.symm
          subst hwx
          by_cases hlt : i < m
          · have hib : (i : Int) < (m : Int) := by omega
            have hib0 : (0 : Int) ≤ (i : Int) := by omega
            obtain ⟨b, off, rfl, hci⟩ := HA.out.1.cell i hlt
            obtain ⟨Ni, hNi⟩ : ∃ Ni, Ni = N i := ⟨_, rfl⟩
            obtain ⟨Ai, hAi⟩ : ∃ Ai, Ai = A i := ⟨_, rfl⟩
            rw [← hNi, ← hAi] at hci
            have hfew : Ni ≤ 1000000 := by rw [hNi]; exact HA.out.1.few i hlt
            have HN : Hid (Ni = N i ∧ SlZ Ai Ni (Z i) w) := ⟨hNi, by rw [hNi, hAi]; exact HA.out.1.sl i hlt⟩
            clear hNi hAi
            go_wp2
            go_loopw [7, 29] (fun va vj wx => ∃ j : Nat, j ≤ Ni ∧ vj = .int .i64 (j : Nat) ∧ va = .int .i64 (ahd (Z i) j) ∧ Hid (crow n (Z i) j = 0) ∧ wx = w) (fun _ vj _ => Ni - (intOf vj).toNat)
            case atStart => exact ⟨0, by omega, rfl, rfl, rfl, rfl⟩
            case round =>
              obtain ⟨j, hj, rfl, rfl, HJ, hwx⟩ := hrel
              have hwx := hwx.symm
              subst hwx
              by_cases hlj : j < Ni
              · have hjb : (j : Int) < (Ni : Int) := by omega
                have hjb0 : (0 : Int) ≤ (j : Int) := by omega
                obtain ⟨bx, ox, rfl, hcx⟩ := HN.out.2 j hlj
                obtain ⟨x, hx⟩ : ∃ x, x = Z i j := ⟨_, rfl⟩
                obtain ⟨p, hp⟩ : ∃ p, p = ahd (Z i) j := ⟨_, rfl⟩
                rw [← hx] at hcx
                rw [← hp]
                have HX : Hid (x = Z i j ∧ p = ahd (Z i) j) := ⟨hx, hp⟩
                clear hx hp
                by_cases g1 : x < 0
                · have HV : Hid (E = 10) := by
                    show _ = _
                    rw [HE.out]
                    exact crows_err HG.out (by omega) (crow_err HJ.out (by omega) (if_pos (Or.inl (by rw [← HX.out.1]; exact g1))) (by rw [← HN.out.1]; exact hlj)) hlt
                  go_wp2
                  go_ret
                  exact ⟨by (first | (rw [HV.out]; rfl) | rw [HV.out]), rfl⟩
                · by_cases g2 : n ≤ x
                  · have HV : Hid (E = 10) := by
                      show _ = _
                      rw [HE.out]
                      exact crows_err HG.out (by omega) (crow_err HJ.out (by omega) (if_pos (Or.inr (by rw [← HX.out.1]; exact g2))) (by rw [← HN.out.1]; exact hlj)) hlt
                    have g2' : x ≥ n := g2
                    go_wp2
                    go_ret
                    exact ⟨by (first | (rw [HV.out]; rfl) | rw [HV.out]), rfl⟩
                  · have g2' : ¬ x ≥ n := g2
                    have g0 : ¬ (Z i j < 0 ∨ n ≤ Z i j) := by rw [← HX.out.1]; omega
                    by_cases g3 : x ≤ p
                    · have HV : Hid (E = 3) := by
                        have hj0 : 0 < j ∧ Z i j ≤ Z i (j - 1) := by
                          have h4 := HX.out.2
                          unfold ahd at h4
                          by_cases e0 : j = 0
                          · rw [if_pos e0] at h4; omega
                          · rw [if_neg e0] at h4
                            exact ⟨by omega, by rw [← HX.out.1, ← h4]; exact g3⟩
                        show _ = _
                        rw [HE.out]
                        exact crows_err HG.out (by omega) (crow_err HJ.out (by omega) (by rw [if_neg g0, if_pos hj0]) (by rw [← HN.out.1]; exact hlj)) hlt
                      clear g0
                      go_wp2
                      go_ret
                      exact ⟨by (first | (rw [HV.out]; rfl) | rw [HV.out]), rfl⟩
                    · have HV : Hid (crow n (Z i) (j + 1) = 0 ∧ x = ahd (Z i) (j + 1)) := by
                        refine ⟨crow_next HJ.out g0 (fun h5 => g3 ?_), ?_⟩
                        · have h4 := HX.out.2
                          unfold ahd at h4
                          rw [if_neg (by omega)] at h4
                          rw [HX.out.1, h4]; exact h5.2
                        · unfold ahd
                          rw [if_neg (by omega), Nat.add_sub_cancel]; exact HX.out.1
                      clear g0
                      go_wp2
                      go_roundw
                      case rel => exact ⟨j + 1, by omega, by go_num, by rw [HV.out.2], HV.out.1, by first | rfl | trivial⟩
                      case measure => simp [intOf]; omega
              · have hjb : ¬ (j : Int) < (Ni : Int) := by omega
                have HV : Hid (crows n N Z (i + 1) = 0) := crows_next HG.out (by rw [← HN.out.1, show Ni = j by omega]; exact HJ.out)
                go_wp2
                go_roundw
                case rel => exact ⟨i + 1, by omega, by go_num, HV.out, by first | rfl | trivial⟩
                case measure => simp [intOf]; omega
          · have hib : ¬ (i : Int) < (m : Int) := by omega
            have HV : Hid (E = 0) := by show _ = _; rw [HE.out, show m = i by omega]; exact HG.out
            go_wp2
            go_ret
            exact ⟨by (first | (rw [HV.out]; rfl) | rw [HV.out]), rfl⟩
end Go.Proofs.Ytjkncdmbcckcdaa
