/- Codes of few checks: which checks are odd (the program's oddOnes); slices.Max. -/
import Derived.Test.YtjkncdmbcckcdabZKE6
namespace Go.Proofs.Ytjkncdmbcckcdab
open Go.RowKit Go.Sort

/-- The rows of some numbers. -/
def rowsV (A : Nat → Option Addr) (N C : Nat → Nat) (l : List Nat) : List Value := l.map fun i => .slice (A i) (N i) (C i)
set_option maxHeartbeats 8000000 in
set_option maxRecDepth 100000 in
theorem oddOnes_any {ao wo : Option Addr} {m ca n cw : Nat} {A : Nat → Option Addr} {N C : Nat → Nat} {Z : Nat → Nat → Int} {y : Nat → Int} {w : World} (hA : MatZ ao m A N C Z w) (hy : SlZ wo n y w) (hm : m ≤ 64) (hN : ∀ i, i < m → N i ≤ 6000) (hZ : ∀ i, i < m → ∀ j, j < N i → 0 ≤ Z i j ∧ Z i j < (n : Int)) :
    Calls Try.prog 29 #[.slice ao m ca, .slice wo n cw] w fun e w' => ∃ v, e = .returned v ∧ OwnV w.heap.size v (rowsV A N C (odds N Z y m)) w' ∧ Below w.heap.size w w' := by
  have HF : Hid (MatZ ao m A N C Z w ∧ SlZ wo n y w ∧ (∀ i, i < m → N i ≤ 6000) ∧ ∀ i, i < m → ∀ j, j < N i → 0 ≤ Z i j ∧ Z i j < (n : Int)) := ⟨hA, hy, hN, hZ⟩
  clear hA hy hN hZ
  go_enter Try.func29, Try.ntmps29
  go_wp2
  go_loopw [5, 10] (fun vo vi wx => ∃ i : Nat, i ≤ m ∧ vi = .int .i64 (i : Nat) ∧ Hid (OwnV w.heap.size vo (rowsV A N C (odds N Z y i)) wx ∧ Below w.heap.size w wx)) (fun _ vi _ => m - (intOf vi).toNat)
  case atStart => exact ⟨0, by omega, rfl, OwnV.nil _ _, Below.refl _ _⟩
  case round =>
    obtain ⟨i, hi, rfl, HI⟩ := hrel
    rename World => wr
    by_cases hlt : i < m
    · have hib : (i : Int) < (m : Int) := by omega
      have hib0 : (0 : Int) ≤ (i : Int) := by omega
      obtain ⟨b, off, rfl, hci⟩ := (HF.out.1.below HI.out.2).cell i hlt
      obtain ⟨Ni, hNi⟩ : ∃ Ni, Ni = N i := ⟨_, rfl⟩
      obtain ⟨Ai, hAi⟩ : ∃ Ai, Ai = A i := ⟨_, rfl⟩
      obtain ⟨Ci, hCi⟩ : ∃ Ci, Ci = C i := ⟨_, rfl⟩
      rw [← hNi, ← hAi, ← hCi] at hci
      obtain ⟨S, hS⟩ : ∃ S, S = par y (Z i) (N i) := ⟨_, rfl⟩
      have hS2 : S < 2 := by rw [hS]; exact par_lt _ _ _
      have HSm : Hid (Calls Try.prog 45 #[.slice Ai Ni Ci, .slice wo n cw] wr fun e w' => e = .returned (.int .i64 (S : Nat)) ∧ Below wr.heap.size wr w') := by
        have hz := (HF.out.1.below HI.out.2).sl i hlt
        have h6 := HF.out.2.2.1 i hlt
        rw [hS, hNi, hAi]
        exact ssum_any hz (slz_below HF.out.2.1 HI.out.2) (by omega) (HF.out.2.2.2 i hlt)
      have HV0 : Hid (Value.slice Ai Ni Ci = .slice (A i) (N i) (C i) ∧ S = par y (Z i) (N i)) := ⟨by rw [hNi, hAi, hCi], hS⟩
      have hlen := odds_len N Z y i
      clear hNi hAi hCi hS
      by_cases h1 : S = 1
      · have hz1 : ((S : Int) == 1) = true := by rw [h1]; rfl
        have HV : Hid (rowsV A N C (odds N Z y (i + 1)) = rowsV A N C (odds N Z y i) ++ [.slice Ai Ni Ci]) := by
          have e : odds N Z y (i + 1) = odds N Z y i ++ [i] := if_pos (by rw [← HV0.out.2]; exact h1)
          show _ = _
          rw [e, HV0.out.1]
          unfold rowsV
          rw [List.map_append]; rfl
        have hll : (rowsV A N C (odds N Z y i)).length ≤ 1000000 := by unfold rowsV; rw [List.length_map]; omega
        clear h1
        go_wp2_with fail
        refine HSm.out.mono ?_
        rintro e w2 ⟨rfl, hb2⟩
        have H2 : Hid (OwnV w.heap.size u5 (rowsV A N C (odds N Z y i)) w2 ∧ Below w.heap.size w w2) := ⟨HI.out.1.below hb2 (Nat.le_refl _), bel_up' HI.out.2 hb2⟩
        have hs2 := H2.out.2.size
        clear hb2 hci
        go_wp2_with (at_builtin; refine append_sl rfl _ _ rfl w.heap.size u5 (rowsV A N C (odds N Z y i)) rfl (H2.out.1.below ((Below.refl _ _).alloc (Nat.le_refl _) _) (Nat.le_refl _)) ⟨w2.heap.size, 0, none⟩ 1 (.slice Ai Ni Ci) rfl rfl (by rw [cell_of_row _ _ _ _ _ (0, 0) (two_new _)]; rfl) hll (by simp; omega) ?_; intro v' w6 hown6 hg6)
        have HR : Hid (OwnV w.heap.size v' (rowsV A N C (odds N Z y (i + 1))) w6 ∧ Below w.heap.size w w6) := by
          have hal : Below w2.heap.size w2 (w2.alloc (.cells #[.slice Ai Ni Ci] 22)) := (Below.refl _ _).alloc (Nat.le_refl _) _
          refine ⟨by rw [HV.out]; exact hown6, (bel_up' H2.out.2 hal).grown hg6 (by simp; omega) (fun b hb => (H2.out.1.below hal (Nat.le_refl _)).open_ge b hb)⟩
        clear hown6 hg6
        go_roundw
        case rel => exact ⟨i + 1, by omega, by go_num, HR.out⟩
        case measure => simp [intOf]; omega
      · have hz1 : ((S : Int) == 1) = false := by rw [beq_eq_false_iff_ne]; omega
        have HV : Hid (odds N Z y (i + 1) = odds N Z y i) := if_neg (by rw [← HV0.out.2]; exact h1)
        clear h1
        go_wp2_with fail
        refine HSm.out.mono ?_
        rintro e w2 ⟨rfl, hb2⟩
        have H2 : Hid (OwnV w.heap.size u5 (rowsV A N C (odds N Z y (i + 1))) w2 ∧ Below w.heap.size w w2) := ⟨by rw [HV.out]; exact HI.out.1.below hb2 (Nat.le_refl _), bel_up' HI.out.2 hb2⟩
        clear hb2 hci
        go_wp2
        go_roundw
        case rel => exact ⟨i + 1, by omega, by go_num, H2.out⟩
        case measure => simp [intOf]; omega
    · have hib : ¬ (i : Int) < (m : Int) := by omega
      have hie : m = i := by omega
      subst hie
      go_wp2
      go_ret
      exact ⟨_, rfl, HI.out⟩
set_option maxHeartbeats 4000000 in
set_option maxRecDepth 100000 in
theorem smax_any {g n c : Nat} {f : Nat → Nat} {w : World} (h : Row g n f w) (h0 : 0 < n) (hn : n ≤ 1000) (hf : ∀ p, p < n → f p ≤ 1000000) :
    Calls Try.prog 46 #[.slice (some ⟨g, 0, none⟩) n c] w fun e w' => e = .returned (.int .i64 (mxv f n : Nat)) ∧ w' = w := by
  have HS : Hid (Row g n f w ∧ ∀ p, p < n → f p ≤ 1000000) := ⟨h, hf⟩
  have hn1 : ¬ (n : Int) < 1 := by omega
  have hc0 := h.cell 0 h0
  have hn0 : (0 : Int) < (n : Int) := by omega
  obtain ⟨f0, hf0⟩ : ∃ f0, f0 = f 0 := ⟨_, rfl⟩
  rw [← hf0] at hc0
  have HM0 : Hid (f0 = mxv f 1) := by show f0 = max 0 (f 0); omega
  clear h hf hf0
  go_enter Try.func46, Try.ntmps46
  go_wp2
  go_loopw [3, 4] (fun vm vi wx => ∃ (i M : Nat), 1 ≤ i ∧ i ≤ n ∧ vi = .int .i64 (i : Nat) ∧ vm = .int .i64 (M : Nat) ∧ Hid (M = mxv f i) ∧ wx = w) (fun _ vi _ => n - (intOf vi).toNat)
  case atStart => exact ⟨1, f0, by omega, by omega, rfl, rfl, HM0.out, rfl⟩
  case round =>
    clear hc0
    obtain ⟨i, M, hi1, hi, rfl, rfl, HI, hwx⟩ := hrel
    have hwx := hwx.symm
    subst hwx
    by_cases hlt : i < n
    · have hib : (i : Int) < (n : Int) := by omega
      have hib0 : (0 : Int) ≤ (i : Int) := by omega
      have hcc := HS.out.1.cell i hlt
      obtain ⟨x, hx⟩ : ∃ x, x = f i := ⟨_, rfl⟩
      rw [← hx] at hcc
      have HX : Hid (x = f i) := hx
      clear hx
      by_cases hle : M ≤ x
      · have hmx : max (M : Int) (x : Int) = (x : Int) := by omega
        have hmx2 : (M : Int) ≤ (x : Int) := by omega
        have hmx3 : ¬ (x : Int) < (M : Int) := by omega
        have HV : Hid (x = mxv f (i + 1)) := by show x = max (mxv f i) (f i); rw [← HI.out, ← HX.out]; omega
        go_wp2
        go_roundw
        case rel => exact ⟨i + 1, x, by omega, by omega, by go_num, by first | rfl | (simp; omega), HV.out, by first | rfl | trivial⟩
        case measure => simp [intOf]; omega
      · have hmx : max (M : Int) (x : Int) = (M : Int) := by omega
        have hmx2 : ¬ (M : Int) ≤ (x : Int) := by omega
        have hmx3 : (x : Int) < (M : Int) := by omega
        have HV : Hid (M = mxv f (i + 1)) := by show M = max (mxv f i) (f i); rw [← HI.out, ← HX.out]; omega
        go_wp2
        go_roundw
        case rel => exact ⟨i + 1, M, by omega, by omega, by go_num, by first | rfl | (simp; omega), HV.out, by first | rfl | trivial⟩
        case measure => simp [intOf]; omega
    · have hib : ¬ (i : Int) < (n : Int) := by omega
      have hie : n = i := by omega
      subst hie
      go_wp2
      go_ret
      exact ⟨by first | (rw [HI.out]; rfl) | rw [HI.out], rfl⟩
end Go.Proofs.Ytjkncdmbcckcdab
