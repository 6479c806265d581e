/- Codes of few checks: the reference's odd checks. -/
import Derived.Test.YtjkncdmbcckcdaaZKE12
namespace Go.Proofs.Ytjkncdmbcckcdaa
open Go.RowKit Go.Sort

def onesN (y z : Nat → Int) (j : Nat) : Nat := (selZ (fun x => decide (y x.toNat = 1)) z j).length
theorem onesN_one {y z : Nat → Int} {j : Nat} (h : y (z j).toNat = 1) : onesN y z (j + 1) = onesN y z j + 1 := by
  unfold onesN
  have e : selZ (fun x => decide (y x.toNat = 1)) z (j + 1) = selZ (fun x => decide (y x.toNat = 1)) z j ++ [z j] := if_pos (decide_eq_true h)
  rw [e, List.length_append]; rfl
theorem onesN_not {y z : Nat → Int} {j : Nat} (h : y (z j).toNat ≠ 1) : onesN y z (j + 1) = onesN y z j := by
  unfold onesN
  have e : selZ (fun x => decide (y x.toNat = 1)) z (j + 1) = selZ (fun x => decide (y x.toNat = 1)) z j := if_neg (by rw [decide_eq_true_eq]; exact h)
  rw [e]
/-- The odd checks' numbers, as a list of whole numbers. -/
def oddI (N : Nat → Nat) (Z : Nat → Nat → Int) (y : Nat → Int) (m : Nat) : List Int := (odds N Z y m).map fun i : Nat => (i : Int)
theorem oddI_len (N : Nat → Nat) (Z : Nat → Nat → Int) (y : Nat → Int) (m : Nat) : (oddI N Z y m).length ≤ m := by
  unfold oddI; rw [List.length_map]; exact odds_len N Z y m

set_option maxHeartbeats 16000000 in
set_option maxRecDepth 100000 in
theorem rodd_any {ao wo : Option Addr} {m ca n cw : Nat} {A : Nat → Option Addr} {N C : Nat → Nat} {Z : Nat → Nat → Int} {y : Nat → Int} {w : World} (hA : MatZ ao m A N C Z w) (hy : SlZ wo n y w) (hm : m ≤ 64) (hN : ∀ i, i < m → N i ≤ 6000) (hZ : ∀ i, i < m → ∀ j, j < N i → 0 ≤ Z i j ∧ Z i j < (n : Int)) (hb : ∀ p, p < n → y p = 0 ∨ y p = 1) :
    Calls Try.prog 77 #[.slice ao m ca, .slice wo n cw] w fun e w' => ∃ v, e = .returned v ∧ OwnI w.heap.size v (oddI N Z y m) w' ∧ Below w.heap.size w w' := by
  have HF : Hid (MatZ ao m A N C Z w ∧ SlZ wo n y w ∧ (∀ i, i < m → N i ≤ 6000) ∧ (∀ i, i < m → ∀ j, j < N i → 0 ≤ Z i j ∧ Z i j < (n : Int)) ∧ ∀ p, p < n → y p = 0 ∨ y p = 1) := ⟨hA, hy, hN, hZ, hb⟩
  clear hA hy hN hZ hb
  go_enter Try.func77, Try.ntmps77
  go_wp2
  go_loopw [5, 6] (fun vo vi wx => ∃ i : Nat, i ≤ m ∧ vi = .int .i64 (i : Nat) ∧ Hid (OwnI w.heap.size vo (oddI N Z y i) wx ∧ Below w.heap.size w wx)) (fun _ vi _ => m - (intOf vi).toNat)
  case atStart => exact ⟨0, by omega, rfl, OwnI.nil _ _, Below.refl _ _⟩
  case round =>
    obtain ⟨i, hi, rfl, HI⟩ := hrel
    rename World => wr
    have hszr := HI.out.2.size
    by_cases hlt : i < m
    · have hib : (i : Int) < (m : Int) := by omega
      have hib0 : (0 : Int) ≤ (i : Int) := by omega
      obtain ⟨b, off, rfl, hci⟩ := (HF.out.1.below HI.out.2).cell i hlt
      obtain ⟨Ni, hNi⟩ : ∃ Ni, Ni = N i := ⟨_, rfl⟩
      obtain ⟨Ai, hAi⟩ : ∃ Ai, Ai = A i := ⟨_, rfl⟩
      obtain ⟨Ci, hCi⟩ : ∃ Ci, Ci = C i := ⟨_, rfl⟩
      rw [← hNi, ← hAi, ← hCi] at hci
      have HG : Hid (SlZ Ai Ni (Z i) wr ∧ SlZ wo n y wr ∧ (∀ j, j < Ni → 0 ≤ Z i j ∧ Z i j < (n : Int)) ∧ (∀ p, p < n → y p = 0 ∨ y p = 1) ∧ Ni = N i) := ⟨by rw [hNi, hAi]; exact (HF.out.1.below HI.out.2).sl i hlt, slz_below HF.out.2.1 HI.out.2, by rw [hNi]; exact HF.out.2.2.2.1 i hlt, HF.out.2.2.2.2, hNi⟩
      have h6 : Ni ≤ 6000 := by rw [hNi]; exact HF.out.2.2.1 i hlt
      have hlen := oddI_len N Z y i
      clear hNi hAi hCi
      go_wp2
      go_loopw [7, 8] (fun vs vj wx => ∃ (j S : Nat), j ≤ Ni ∧ S ≤ j ∧ vj = .int .i64 (j : Nat) ∧ vs = .int .i64 (S : Nat) ∧ Hid (S = onesN y (Z i) j) ∧ wx = wr) (fun _ vj _ => Ni - (intOf vj).toNat)
      case atStart => exact ⟨0, 0, by omega, by omega, rfl, rfl, rfl, rfl⟩
      case round =>
        obtain ⟨j, S, hj, hS, rfl, rfl, HJ, hwx⟩ := hrel
        have hwx := hwx.symm
        subst hwx
        by_cases hjl : j < Ni
        · have hjb : (j : Int) < (Ni : Int) := by omega
          have hjb0 : (0 : Int) ≤ (j : Int) := by omega
          obtain ⟨b1, o1, rfl, hc⟩ := HG.out.1 j hjl
          have hxr := HG.out.2.2.1 j hjl
          obtain ⟨X, hX⟩ : ∃ X : Nat, Z i j = (X : Int) := ⟨(Z i j).toNat, by omega⟩
          rw [hX] at hc hxr
          have hXn : X < n := by omega
          obtain ⟨b2, o2, rfl, hc2⟩ := HG.out.2.1 X hXn
          have hXb : (X : Int) < (n : Int) := by omega
          have hX0 : (0 : Int) ≤ (X : Int) := by omega
          have hyz : y (Z i j).toNat = y X := by rw [hX]; rfl
          rcases HG.out.2.2.2.1 X hXn with h1 | h1
          · rw [h1] at hc2
            have HV : Hid (S = onesN y (Z i) (j + 1)) := by
              show _ = _
              rw [onesN_not (by rw [hyz, h1]; omega)]; exact HJ.out
            clear hX hyz h1 hxr
            go_wp2
            go_roundw
            case rel => exact ⟨j + 1, S, by omega, by omega, by go_num, by go_num, HV.out, by first | rfl | trivial⟩
            case measure => simp [intOf]; omega
          · rw [h1] at hc2
            have HV : Hid (S + 1 = onesN y (Z i) (j + 1)) := by
              show _ = _
              rw [onesN_one (by rw [hyz, h1])]
              have := HJ.out
              omega
            clear hX hyz h1 hxr
            go_wp2
            go_roundw
            case rel => exact ⟨j + 1, S + 1, by omega, by omega, by go_num, by go_num, HV.out, by first | rfl | trivial⟩
            case measure => simp [intOf]; omega
        · have hjb : ¬ (j : Int) < (Ni : Int) := by omega
          have hje : Ni = j := by omega
          subst hje
          have HP : Hid (par y (Z i) (N i) = S % 2) := by
            show _ = _
            rw [← HG.out.2.2.2.2, HJ.out]; rfl
          have htm : Int.tmod (S : Int) 2 = ((S % 2 : Nat) : Int) := by rw [Int.tmod_eq_emod_of_nonneg (by omega)]; omega
          obtain ⟨T, hT⟩ : ∃ T, T = S % 2 := ⟨_, rfl⟩
          rw [← hT] at htm
          have hT2 : T < 2 := by omega
          by_cases h1 : T = 1
          · have hz1 : ((T : Int) == 1) = true := by rw [h1]; rfl
            have HV : Hid (oddI N Z y (i + 1) = oddI N Z y i ++ [(i : Int)]) := by
              have e : odds N Z y (i + 1) = odds N Z y i ++ [i] := if_pos (by rw [HP.out, ← hT]; exact h1)
              show _ = _
              unfold oddI
              rw [e, List.map_append]; rfl
            clear h1 hT
            go_wp2_with (at_builtin; refine append_int rfl _ _ rfl w.heap.size _ (oddI N Z y i) rfl (HI.out.1.alloc _) ⟨_, 0, none⟩ 1 (i : Int) rfl (by simp) (by omega) (by simp; omega) ?_; intro v5 w5 hown5 hgrow5)
            have HR : Hid (OwnI w.heap.size v5 (oddI N Z y (i + 1)) w5 ∧ Below w.heap.size w w5) := ⟨by rw [HV.out]; exact hown5, (HI.out.2.alloc hszr _).grown hgrow5 (by simp; omega) (fun b hb => (HI.out.1.lt b hb).1)⟩
            clear hown5 hgrow5
            go_roundw
            case rel => exact ⟨i + 1, by omega, by go_num, HR.out⟩
            case measure => simp [intOf]; omega
          · have hz1 : ((T : Int) == 1) = false := by rw [beq_eq_false_iff_ne]; omega
            have HV : Hid (oddI N Z y (i + 1) = oddI N Z y i) := by
              have e : odds N Z y (i + 1) = odds N Z y i := if_neg (by rw [HP.out, ← hT]; exact h1)
              show _ = _
              unfold oddI
              rw [e]
            clear h1 hT
            go_wp2
            go_roundw
            case rel => exact ⟨i + 1, by omega, by go_num, by rw [HV.out]; exact HI.out.1, HI.out.2⟩
            case measure => simp [intOf]; omega
    · have hib : ¬ (i : Int) < (m : Int) := by omega
      have hie : m = i := by omega
      subst hie
      go_wp2
      go_ret
      exact ⟨_, rfl, HI.out⟩
end Go.Proofs.Ytjkncdmbcckcdaa
