/- Golay: checkDesign. -/
import Derived.Test.YtafebmhbfmdjlaaZKR6
import Derived.Test.YtafebmhbfmdjlaaZO3
namespace Go.Proofs.Ytafebmhbfmdjlaa
open Go.RowKit

/-- Is there one? -/
def anG (p : Nat → Bool) : Nat → Bool
  | 0 => false
  | n + 1 => anG p n || p n
theorem anG_yes {p : Nat → Bool} {j : Nat} (hp : p j = true) : ∀ n, j < n → anG p n = true
  | 0, h => absurd h (by omega)
  | n + 1, h => by
    show (anG p n || p n) = true
    by_cases e : j = n
    · rw [← e, hp, Bool.or_true]
    · rw [anG_yes hp n (by omega), Bool.true_or]
theorem anG_no {p : Nat → Bool} : ∀ n, anG p n = false → ∀ j, j < n → p j = false
  | 0, _, j, h => absurd h (by omega)
  | n + 1, h, j, hj => by
    have h2 : (anG p n || p n) = false := h
    rw [Bool.or_eq_false_iff] at h2
    by_cases e : j = n
    · rw [e]; exact h2.2
    · exact anG_no n h2.1 j (by omega)
/-- Has a row a place out of range? -/
def gbr (n : Int) (N : Nat → Nat) (Z : Nat → Nat → Int) (i : Nat) : Bool := anG (fun j => decide (Z i j < 0) || decide (n ≤ Z i j)) (N i)
def gpl (n : Int) (N : Nat → Nat) (Z : Nat → Nat → Int) (m : Nat) : Bool := anG (gbr n N Z) m
/-- What is wrong with a design. -/
def gde (n : Int) (m : Nat) (N : Nat → Nat) (Z : Nat → Nat → Int) (t : Int) : Int := if n < 1 ∨ 64 < n ∨ 4096 < m then 4 else if gpl n N Z m = true then 10 else if t < 0 ∨ n < t then 6 else sme n.toNat t.toNat

set_option maxHeartbeats 8000000 in
set_option maxRecDepth 100000 in
theorem checkDesign_any {ao : Option Addr} {m ca : Nat} {A : Nat → Option Addr} {N C : Nat → Nat} {Z : Nat → Nat → Int} (n t : Int) {w : World} (hM : MatZ ao m A N C Z w) (hm : m ≤ 6000) (hN : ∀ i, i < m → N i ≤ 6000) :
    Calls Try.prog 9 #[.int .i64 n, .slice ao m ca, .int .i64 t] w fun e w' => e = .returned (.int .i64 (gde n m N Z t)) ∧ w' = w := by
  have HM : Hid (MatZ ao m A N C Z w ∧ ∀ i, i < m → N i ≤ 6000) := ⟨hM, hN⟩
  clear hM hN
  by_cases hl : n < 1 ∨ 64 < n ∨ 4096 < m
  · have HE : Hid (gde n m N Z t = 4) := if_pos hl
    by_cases h1 : n < 1
    · go_enter Try.func9, Try.ntmps9
      go_wp2
      go_ret
      exact ⟨by rw [HE.out]; rfl, rfl⟩
    · by_cases h2 : 64 < n
      · have h3 : n > 64 := h2
        go_enter Try.func9, Try.ntmps9
        go_wp2
        go_ret
        exact ⟨by rw [HE.out]; rfl, rfl⟩
      · have h4 : (4096 : Int) < (m : Int) := by omega
        go_enter Try.func9, Try.ntmps9
        go_wp2
        go_ret
        exact ⟨by rw [HE.out]; rfl, rfl⟩
  · obtain ⟨nn, hnn⟩ : ∃ nn : Nat, n = (nn : Int) := ⟨n.toNat, by omega⟩
    have h1 : ¬ n < 1 := by omega
    have h2 : ¬ 64 < n := by omega
    have h4 : ¬ (4096 : Int) < (m : Int) := by omega
    have HD : Hid (gde n m N Z t = if gpl n N Z m = true then 10 else if t < 0 ∨ n < t then 6 else sme n.toNat t.toNat) := if_neg hl
    have HNN : Hid (n = (nn : Int) ∧ nn ≤ 64) := ⟨hnn, by omega⟩
    clear hl hnn
    go_enter Try.func9, Try.ntmps9
    go_wp2
    go_loopw [24] (fun vi wr => ∃ i : Nat, vi = .int .i64 (i : Nat) ∧ i ≤ m ∧ Hid (gpl n N Z i = false ∧ wr = w)) (fun vi _ => m - (intOf vi).toNat)
    case atStart => exact ⟨0, rfl, by omega, rfl, rfl⟩
    case round =>
      obtain ⟨i, rfl, hi, HS⟩ := hrel
      have hw := HS.out.2.symm
      subst hw
      by_cases hlt : i < m
      · have hib : (i : Int) < (m : Int) := by omega
        obtain ⟨b, off, e1, hcell⟩ := HM.out.1.cell i hlt
        subst e1
        have hNi := HM.out.2 i hlt
        obtain ⟨k, hk⟩ : ∃ k, k = N i := ⟨_, rfl⟩
        rw [← hk] at hcell hNi
        have HK : Hid (k = N i) := hk
        clear hk
        go_wp2
        go_loopw [30] (fun vj wq => ∃ j : Nat, vj = .int .i64 (j : Nat) ∧ j ≤ k ∧ Hid (anG (fun j => decide (Z i j < 0) || decide (n ≤ Z i j)) j = false ∧ wq = w)) (fun vj _ => k - (intOf vj).toNat)
        case atStart => exact ⟨0, rfl, by omega, rfl, rfl⟩
        case round =>
          obtain ⟨j, rfl, hj, HJ⟩ := hrel
          have hw := HJ.out.2.symm
          subst hw
          by_cases hjl : j < k
          · have hjb : (j : Int) < (k : Int) := by omega
            obtain ⟨b2, off2, e2, hc2⟩ := HM.out.1.sl i hlt j (by rw [← HK.out]; exact hjl)
            obtain ⟨z, hz⟩ : ∃ z, z = Z i j := ⟨_, rfl⟩
            rw [← hz] at hc2
            by_cases hbad : z < 0 ∨ n ≤ z
            · have HE : Hid (gde n m N Z t = 10) := by
                show gde n m N Z t = 10
                rw [HD.out, if_pos]
                refine anG_yes (j := i) ?_ m hlt
                refine anG_yes (j := j) ?_ _ (by rw [← HK.out]; exact hjl)
                rw [← hz]
                simpa using hbad
              by_cases h0 : z < 0
              · clear hz
                rw [e2] at hcell
                go_wp2
                go_ret
                exact ⟨by rw [HE.out]; rfl, rfl⟩
              · have hnz : n ≤ z := by omega
                clear hz hbad
                rw [e2] at hcell
                go_wp2
                go_ret
                exact ⟨by rw [HE.out]; rfl, rfl⟩
            · have h0 : ¬ z < 0 := by omega
              have hnz : ¬ n ≤ z := by omega
              have HN2 : Hid (anG (fun j => decide (Z i j < 0) || decide (n ≤ Z i j)) (j + 1) = false) := by
                show (anG (fun j => decide (Z i j < 0) || decide (n ≤ Z i j)) j || (decide (Z i j < 0) || decide (n ≤ Z i j))) = false
                rw [HJ.out.1, ← hz, decide_eq_false h0, decide_eq_false hnz]; rfl
              clear hz hbad HJ
              rw [e2] at hcell
              go_wp2
              go_roundw
              case rel => exact ⟨j + 1, by go_num, by omega, HN2.out, by first | rfl | trivial⟩
              case measure => simp [intOf]; omega
          · have hjb : ¬ (j : Int) < (k : Int) := by omega
            have HN2 : Hid (gpl n N Z (i + 1) = false) := by
              show (gpl n N Z i || gbr n N Z i) = false
              rw [HS.out.1, Bool.false_or]
              unfold gbr
              rw [← HK.out, show k = j by omega]
              exact HJ.out.1
            clear HJ
            go_wp2
            go_roundw
            case rel => exact ⟨i + 1, by go_num, by omega, HN2.out, by first | rfl | trivial⟩
            case measure => simp [intOf]; omega
      · have hib : ¬ (i : Int) < (m : Int) := by omega
        have hie : i = m := by omega
        subst hie
        have HE : Hid (gde n i N Z t = if t < 0 ∨ n < t then 6 else sme n.toNat t.toNat) := by
          show gde n i N Z t = _
          rw [HD.out, HS.out.1]; rfl
        clear HD HS
        by_cases ht : t < 0 ∨ n < t
        · have HF : Hid (gde n i N Z t = 6) := by show _ = _; rw [HE.out, if_pos ht]
          clear HE
          by_cases h0 : t < 0
          · clear ht
            go_wp2
            go_ret
            exact ⟨by rw [HF.out]; rfl, rfl⟩
          · have hnt : n < t := by omega
            clear ht
            go_wp2
            go_ret
            exact ⟨by rw [HF.out]; rfl, rfl⟩
        · have h0 : ¬ t < 0 := by omega
          have hnt : ¬ n < t := by omega
          obtain ⟨e, he⟩ : ∃ e, e = sme n.toNat t.toNat := ⟨_, rfl⟩
          have HF : Hid (gde n i N Z t = e) := by show _ = _; rw [HE.out, if_neg ht, he]
          have HC : Hid (Calls Try.prog 15 #[.int .i64 n, .int .i64 t] w fun x w' => x = .returned (.int .i64 e) ∧ w' = w) := by
            show Calls _ _ _ _ _
            obtain ⟨g1, g2⟩ := HNN.out
            obtain ⟨tt, htt⟩ : ∃ tt : Nat, t = (tt : Int) := ⟨t.toNat, by omega⟩
            rw [he, htt, g1]
            have := checkSets_any (n := nn) (t := tt) g2 (by omega) w
            rw [Int.toNat_natCast, Int.toNat_natCast]
            exact this
          clear HE he ht
          go_wp2_with fail
          refine HC.out.mono ?_
          rintro x w' ⟨rfl, hw⟩
          have hw := hw.symm
          subst hw
          go_wp2
          go_ret
          exact ⟨by rw [HF.out]; rfl, rfl⟩
end Go.Proofs.Ytafebmhbfmdjlaa
