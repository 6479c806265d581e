/- Codes of few checks: the reference's ChecksMay and Bits. -/
import Derived.Test.YtjkncdmbcckcdaaZKE3
namespace Go.Proofs.Ytjkncdmbcckcdaa
open Go.RowKit Go.Sort

set_option maxHeartbeats 8000000 in
set_option maxRecDepth 100000 in
theorem rchecks_any (n : Int) {ao : Option Addr} {m ca : Nat} {A : Nat → Option Addr} {N C : Nat → Nat} {Z : Nat → Nat → Int} {w : World} (hA : MatZ ao m A N C Z w) (hm : m ≤ 1000000) :
    Calls Try.prog 28 #[.int .i64 n, .slice ao m ca] w fun e w' => e = .returned (.int .i64 (schk n m N Z)) ∧ ∃ d, w' = w.drewN d := by
  obtain ⟨E, hE⟩ : ∃ E, E = schk n m N Z := ⟨_, rfl⟩
  have HA : Hid (MatZ ao m A N C Z w ∧ E = schk n m N Z) := ⟨hA, hE⟩
  rw [← hE]
  clear hA hE
  by_cases h1 : n < 1
  · have HE : Hid (E = 4) := by show _ = _; rw [HA.out.2]; unfold schk; rw [if_pos (Or.inl h1)]
    go_enter Try.func28, Try.ntmps28
    go_wp2
    go_ret
    exact ⟨by (first | (rw [HE.out]; rfl) | rw [HE.out]), 0, rfl⟩
  · by_cases h2 : 64 < n
    · have HE : Hid (E = 4) := by show _ = _; rw [HA.out.2]; unfold schk; rw [if_pos (Or.inr (Or.inl h2))]
      have h2' : n > 64 := h2
      go_enter Try.func28, Try.ntmps28
      go_wp2
      go_ret
      exact ⟨by (first | (rw [HE.out]; rfl) | rw [HE.out]), 0, rfl⟩
    · have h2' : ¬ n > 64 := h2
      by_cases h3 : 64 < m
      · have HE : Hid (E = 4) := by show _ = _; rw [HA.out.2]; unfold schk; rw [if_pos (Or.inr (Or.inr h3))]
        have h3' : (64 : Int) < (m : Int) := by omega
        have h3'' : (m : Int) > 64 := h3'
        go_enter Try.func28, Try.ntmps28
        go_wp2
        go_ret
        exact ⟨by (first | (rw [HE.out]; rfl) | rw [HE.out]), 0, rfl⟩
      · have HE : Hid (E = crows n N Z m) := by show _ = _; rw [HA.out.2]; unfold schk; rw [if_neg (by omega)]
        have h3' : ¬ (64 : Int) < (m : Int) := by omega
        have h3'' : ¬ (m : Int) > 64 := h3'
        go_enter Try.func28, Try.ntmps28
        go_wp2
        go_loopw [5] (fun vi wx => ∃ i : Nat, i ≤ m ∧ vi = .int .i64 (i : Nat) ∧ Hid (crows n N Z i = 0) ∧ ∃ d, wx = w.drewN d) (fun vi _ => m - (intOf vi).toNat)
        case atStart => exact ⟨0, by omega, rfl, rfl, 0, rfl⟩
        case round =>
          obtain ⟨i, hi, rfl, HG, d, hwx⟩ := hrel
          subst hwx
          by_cases hlt : i < m
          · have hib : (i : Int) < (m : Int) := by omega
            have hib0 : (0 : Int) ≤ (i : Int) := by omega
            obtain ⟨b, off, rfl, hci0⟩ := HA.out.1.cell i hlt
            obtain ⟨Ni, hNi⟩ : ∃ Ni, Ni = N i := ⟨_, rfl⟩
            obtain ⟨Ai, hAi⟩ : ∃ Ai, Ai = A i := ⟨_, rfl⟩
            rw [← hNi, ← hAi] at hci0
            have hfew : Ni ≤ 1000000 := by rw [hNi]; exact HA.out.1.few i hlt
            have HN : Hid (Ni = N i ∧ SlZ Ai Ni (Z i) w ∧ w.cell? ⟨b, off + i, none⟩ = some (.slice Ai Ni (C i))) := ⟨hNi, by rw [hNi, hAi]; exact HA.out.1.sl i hlt, hci0⟩
            obtain ⟨Ci, hCi⟩ : ∃ Ci, Ci = C i := ⟨_, rfl⟩
            rw [← hCi] at HN
            clear hNi hAi hci0 hCi
            go_wp2
            go_loopw [6] (fun vj wx => ∃ j : Nat, j ≤ Ni ∧ vj = .int .i64 (j : Nat) ∧ Hid (crow n (Z i) j = 0) ∧ ∃ d, wx = w.drewN d) (fun vj _ => Ni - (intOf vj).toNat)
            case atStart => exact ⟨0, by omega, rfl, rfl, d, rfl⟩
            case round =>
              obtain ⟨j, hj, rfl, HJ, d2, hwx⟩ := hrel
              subst hwx
              have hci : w.cell? ⟨b, off + i, none⟩ = some (.slice Ai Ni Ci) := HN.out.2.2
              by_cases hlj : j < Ni
              · have hjb : (j : Int) < (Ni : Int) := by omega
                have hjb0 : (0 : Int) ≤ (j : Int) := by omega
                obtain ⟨bx, ox, rfl, hcx0⟩ := HN.out.2.1 j hlj
                obtain ⟨x, hx⟩ : ∃ x, x = Z i j := ⟨_, rfl⟩
                have hcx : w.cell? ⟨bx, ox + j, none⟩ = some (.int .i64 x) := by rw [hx]; exact hcx0
                have HX : Hid (x = Z i j) := hx
                clear hx hcx0
                by_cases g1 : x < 0
                · have HV : Hid (E = 10) := by
                    show _ = _
                    rw [HE.out]
                    exact crows_err HG.out (by omega) (crow_err HJ.out (by omega) (if_pos (Or.inl (by rw [← HX.out]; exact g1))) (by rw [← HN.out.1]; exact hlj)) hlt
                  go_wp2
                  go_ret
                  exact ⟨by (first | (rw [HV.out]; rfl) | rw [HV.out]), d2, rfl⟩
                · by_cases g2 : n ≤ x
                  · have HV : Hid (E = 10) := by
                      show _ = _
                      rw [HE.out]
                      exact crows_err HG.out (by omega) (crow_err HJ.out (by omega) (if_pos (Or.inr (by rw [← HX.out]; exact g2))) (by rw [← HN.out.1]; exact hlj)) hlt
                    have g2' : x ≥ n := g2
                    go_wp2
                    go_ret
                    exact ⟨by (first | (rw [HV.out]; rfl) | rw [HV.out]), d2, rfl⟩
                  · have g2' : ¬ x ≥ n := g2
                    have g0 : Hid (¬ (Z i j < 0 ∨ n ≤ Z i j)) := by show ¬ _; rw [← HX.out]; omega
                    by_cases hj0 : j = 0
                    · have HV : Hid (crow n (Z i) (j + 1) = 0) := crow_next HJ.out g0.out (fun h5 => by omega)
                      have hjn : ¬ (j : Int) > 0 := by omega
                      have hjn2 : ¬ (0 : Int) < (j : Int) := by omega
                      have hjd : decide ((0 : Int) < (j : Int)) = false := decide_eq_false hjn2
                      have hjd2 : decide ((j : Int) > 0) = false := decide_eq_false hjn2
                      have hjd3 : decide (0 < j) = false := decide_eq_false (by omega)
                      have hjd4 : ¬ 0 < j := by omega
                      clear hj0
                      go_wp2
                      go_quiet (fail)
                      go_wp2
                      go_roundw
                      case rel => exact ⟨j + 1, by omega, by go_num, HV.out, _, by first | rfl | exact World.drewN_drewN _ _ _⟩
                      case measure => simp [intOf]; omega
                    · have hjp : (j : Int) > 0 := by omega
                      have hjp2 : (0 : Int) < (j : Int) := by omega
                      have hjd : decide ((0 : Int) < (j : Int)) = true := decide_eq_true hjp2
                      have hjd2 : decide ((j : Int) > 0) = true := decide_eq_true hjp2
                      have hjd3 : decide (0 < j) = true := decide_eq_true (by omega)
                      have hjd4 : 0 < j := by omega
                      have hjp3 : (0 : Int) ≤ (j : Int) - 1 := by omega
                      have hjp4 : (j : Int) - 1 < (Ni : Int) := by omega
                      obtain ⟨j1, hj1⟩ : ∃ j1, j = j1 + 1 := ⟨j - 1, by omega⟩
                      have hj1w : (j : Int) - 1 = (j1 : Int) := by omega
                      have hwj1 : IntKind.i64.wrap (j1 : Int) = (j1 : Int) := by rw [IntKind.wrap_i64]; omega
                      have hj1b : (j1 : Int) < (Ni : Int) := by omega
                      have hj10 : (0 : Int) ≤ (j1 : Int) := by omega
                      obtain ⟨bx', ox', e', hcp0⟩ := HN.out.2.1 j1 (by omega)
                      cases e'
                      obtain ⟨p, hp⟩ : ∃ p, p = Z i j1 := ⟨_, rfl⟩
                      have hcp : w.cell? ⟨bx, ox + j1, none⟩ = some (.int .i64 p) := by rw [hp]; exact hcp0
                      have HP : Hid (p = Z i (j - 1) ∧ 0 < j) := ⟨by rw [hp, hj1]; rfl, by omega⟩
                      clear hp hcp0 hj1
                      by_cases g3 : x ≤ p
                      · have HV : Hid (E = 3) := by
                          show _ = _
                          rw [HE.out]
                          exact crows_err HG.out (by omega) (crow_err HJ.out (by omega) (by rw [if_neg g0.out, if_pos ⟨HP.out.2, by rw [← HX.out, ← HP.out.1]; exact g3⟩]) (by rw [← HN.out.1]; exact hlj)) hlt
                        go_wp2
                        go_quiet (fail)
                        go_wp2
                        go_ret
                        exact ⟨by (first | (rw [HV.out]; rfl) | rw [HV.out]), _, by first | rfl | exact World.drewN_drewN _ _ _⟩
                      · have HV : Hid (crow n (Z i) (j + 1) = 0) := crow_next HJ.out g0.out (fun h5 => g3 (by rw [HX.out, HP.out.1]; exact h5.2))
                        go_wp2
                        go_quiet (fail)
                        go_wp2
                        go_roundw
                        case rel => exact ⟨j + 1, by omega, by go_num, HV.out, _, by first | rfl | exact World.drewN_drewN _ _ _⟩
                        case measure => simp [intOf]; omega
              · have hjb : ¬ (j : Int) < (Ni : Int) := by omega
                have HV : Hid (crows n N Z (i + 1) = 0) := crows_next HG.out (by rw [← HN.out.1, show Ni = j by omega]; exact HJ.out)
                go_wp2
                go_roundw
                case rel => exact ⟨i + 1, by omega, by go_num, HV.out, d2, by first | rfl | trivial⟩
                case measure => simp [intOf]; omega
          · have hib : ¬ (i : Int) < (m : Int) := by omega
            have HV : Hid (E = 0) := by show _ = _; rw [HE.out, show m = i by omega]; exact HG.out
            go_wp2
            go_ret
            exact ⟨by (first | (rw [HV.out]; rfl) | rw [HV.out]), d, rfl⟩
end Go.Proofs.Ytjkncdmbcckcdaa
