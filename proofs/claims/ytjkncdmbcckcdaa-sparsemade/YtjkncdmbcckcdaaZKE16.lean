/- Codes of few checks: the reference's Stopping (over what In says, as a premise). -/
import Derived.Test.YtjkncdmbcckcdaaZKE15
namespace Go.Proofs.Ytjkncdmbcckcdaa
open Go.RowKit Go.Sort

/-- How many of a check's places lie in a set. -/
def inN (l : List Int) (z : Nat → Int) (j : Nat) : Nat := (selZ (fun x => decide (x ∈ l)) z j).length
theorem inN_one {l : List Int} {z : Nat → Int} {j : Nat} (h : z j ∈ l) : inN l z (j + 1) = inN l z j + 1 := by
  unfold inN
  have e : selZ (fun x => decide (x ∈ l)) z (j + 1) = selZ (fun x => decide (x ∈ l)) z j ++ [z j] := if_pos (decide_eq_true h)
  rw [e, List.length_append]; rfl
theorem inN_not {l : List Int} {z : Nat → Int} {j : Nat} (h : z j ∉ l) : inN l z (j + 1) = inN l z j := by
  unfold inN
  have e : selZ (fun x => decide (x ∈ l)) z (j + 1) = selZ (fun x => decide (x ∈ l)) z j := if_neg (by rw [decide_eq_true_eq]; exact h)
  rw [e]
/-- No check has just one place of the set. -/
def stopB (l : List Int) (N : Nat → Nat) (Z : Nat → Nat → Int) : Nat → Bool
  | 0 => true
  | i + 1 => stopB l N Z i && !decide (inN l (Z i) (N i) = 1)
theorem stopB_no {l : List Int} {N : Nat → Nat} {Z : Nat → Nat → Int} {i : Nat} (h : inN l (Z i) (N i) = 1) : ∀ m, i < m → stopB l N Z m = false
  | 0, hi => absurd hi (by omega)
  | m + 1, hi => by
    show (stopB l N Z m && !decide (inN l (Z m) (N m) = 1)) = false
    by_cases e : i = m
    · subst e; rw [decide_eq_true h, Bool.not_true, Bool.and_false]
    · rw [stopB_no h m (by omega), Bool.false_and]

set_option maxHeartbeats 16000000 in
set_option maxRecDepth 100000 in
theorem rstopping_any {ao : Option Addr} {m ca : Nat} {v : Value} {l : List Int} {A : Nat → Option Addr} {N C : Nat → Nat} {Z : Nat → Nat → Int} {w : World} (hA : MatZ ao m A N C Z w) (hm : m ≤ 64) (hN : ∀ i, i < m → N i ≤ 6000)
    (hIn : ∀ d x, Calls Try.prog 41 #[.int .i64 x, v] (w.drewN d) fun e w' => e = .returned (.bool (decide (x ∈ l))) ∧ ∃ n, w' = (w.drewN d).drewN n) :
    Calls Try.prog 37 #[.slice ao m ca, v] w fun e w' => e = .returned (.bool (stopB l N Z m)) ∧ ∃ d, w' = w.drewN d := by
  obtain ⟨R, hR⟩ : ∃ R, R = stopB l N Z m := ⟨_, rfl⟩
  have HF : Hid (MatZ ao m A N C Z w ∧ (∀ i, i < m → N i ≤ 6000) ∧ R = stopB l N Z m) := ⟨hA, hN, hR⟩
  have HIn : Hid (∀ d x, Calls Try.prog 41 #[.int .i64 x, v] (w.drewN d) fun e w' => e = .returned (.bool (decide (x ∈ l))) ∧ ∃ n, w' = (w.drewN d).drewN n) := hIn
  rw [← hR]
  clear hA hN hIn hR
  go_enter Try.func37, Try.ntmps37
  go_wp2
  go_loopw [5] (fun vi wx => ∃ i : Nat, i ≤ m ∧ vi = .int .i64 (i : Nat) ∧ Hid (stopB l N Z i = true) ∧ ∃ d, wx = w.drewN d) (fun vi _ => m - (intOf vi).toNat)
  case atStart => exact ⟨0, by omega, rfl, rfl, 0, rfl⟩
  case round =>
    obtain ⟨i, hi, rfl, HI, d, hwx⟩ := hrel
    subst hwx
    by_cases hlt : i < m
    · have hib : (i : Int) < (m : Int) := by omega
      have hib0 : (0 : Int) ≤ (i : Int) := by omega
      obtain ⟨b, off, rfl, hci⟩ := HF.out.1.cell i hlt
      obtain ⟨Ni, hNi⟩ : ∃ Ni, Ni = N i := ⟨_, rfl⟩
      obtain ⟨Ai, hAi⟩ : ∃ Ai, Ai = A i := ⟨_, rfl⟩
      obtain ⟨Ci, hCi⟩ : ∃ Ci, Ci = C i := ⟨_, rfl⟩
      rw [← hNi, ← hAi, ← hCi] at hci
      have HG : Hid (SlZ Ai Ni (Z i) w ∧ Ni = N i) := ⟨by rw [hNi, hAi]; exact HF.out.1.sl i hlt, hNi⟩
      have h6 : Ni ≤ 6000 := by rw [hNi]; exact HF.out.2.1 i hlt
      clear hNi hAi hCi
      go_wp2
      go_loopw [6, 7] (fun vs vj wx => ∃ (j S : Nat), j ≤ Ni ∧ S ≤ j ∧ vj = .int .i64 (j : Nat) ∧ vs = .int .i64 (S : Nat) ∧ Hid (S = inN l (Z i) j) ∧ ∃ d, wx = w.drewN d) (fun _ vj _ => Ni - (intOf vj).toNat)
      case atStart => exact ⟨0, 0, by omega, by omega, rfl, rfl, rfl, _, rfl⟩
      case round =>
        obtain ⟨j, S, hj, hS, rfl, rfl, HJ, d2, hwx⟩ := hrel
        subst hwx
        by_cases hjl : j < Ni
        · have hjb : (j : Int) < (Ni : Int) := by omega
          have hjb0 : (0 : Int) ≤ (j : Int) := by omega
          obtain ⟨b1, o1, rfl, hc⟩ := HG.out.1 j hjl
          obtain ⟨x, hx⟩ : ∃ x, x = Z i j := ⟨_, rfl⟩
          rw [← hx] at hc
          by_cases h1 : x ∈ l
          · have HV : Hid (S + 1 = inN l (Z i) (j + 1)) := by
              show _ = _
              rw [inN_one (by rw [← hx]; exact h1)]
              have := HJ.out
              omega
            have HC : Hid (Calls Try.prog 41 #[.int .i64 x, v] (w.drewN d2) fun e w' => e = .returned (.bool true) ∧ ∃ n, w' = (w.drewN d2).drewN n) := by
              have h := HIn.out d2 x
              rw [decide_eq_true h1] at h; exact h
            clear h1 hx
            go_wp2_with fail
            refine HC.out.mono ?_
            rintro e w' ⟨rfl, n3, rfl⟩
            go_wp2
            go_roundw
            case rel => exact ⟨j + 1, S + 1, by omega, by omega, by go_num, by go_num, HV.out, _, by first | rfl | rw [World.drewN_drewN]⟩
            case measure => simp [intOf]; omega
          · have HV : Hid (S = inN l (Z i) (j + 1)) := by
              show _ = _
              rw [inN_not (by rw [← hx]; exact h1)]; exact HJ.out
            have HC : Hid (Calls Try.prog 41 #[.int .i64 x, v] (w.drewN d2) fun e w' => e = .returned (.bool false) ∧ ∃ n, w' = (w.drewN d2).drewN n) := by
              have h := HIn.out d2 x
              rw [decide_eq_false h1] at h; exact h
            clear h1 hx
            go_wp2_with fail
            refine HC.out.mono ?_
            rintro e w' ⟨rfl, n3, rfl⟩
            go_wp2
            go_roundw
            case rel => exact ⟨j + 1, S, by omega, by omega, by go_num, by go_num, HV.out, _, by first | rfl | rw [World.drewN_drewN]⟩
            case measure => simp [intOf]; omega
        · have hjb : ¬ (j : Int) < (Ni : Int) := by omega
          have hje : Ni = j := by omega
          subst hje
          have HP : Hid (inN l (Z i) (N i) = S) := by
            show _ = _
            rw [← HG.out.2, HJ.out]
          by_cases h1 : S = 1
          · have hz1 : ((S : Int) == 1) = true := by rw [h1]; rfl
            have HV : Hid (R = false) := by show _ = _; rw [HF.out.2.2]; exact stopB_no (by rw [HP.out]; exact h1) m hlt
            clear h1
            go_wp2
            go_ret
            exact ⟨by rw [HV.out]; rfl, _, rfl⟩
          · have hz1 : ((S : Int) == 1) = false := by rw [beq_eq_false_iff_ne]; omega
            have HV : Hid (stopB l N Z (i + 1) = true) := by
              show (stopB l N Z i && !decide (inN l (Z i) (N i) = 1)) = true
              rw [HI.out, HP.out, decide_eq_false h1]; rfl
            clear h1
            go_wp2
            go_roundw
            case rel => exact ⟨i + 1, by omega, by go_num, HV.out, _, rfl⟩
            case measure => simp [intOf]; omega
    · have hib : ¬ (i : Int) < (m : Int) := by omega
      have hie : m = i := by omega
      subst hie
      have HV : Hid (R = true) := by show _ = _; rw [HF.out.2.2]; exact HI.out
      go_wp2
      go_ret
      exact ⟨by rw [HV.out]; rfl, _, rfl⟩
end Go.Proofs.Ytjkncdmbcckcdaa
