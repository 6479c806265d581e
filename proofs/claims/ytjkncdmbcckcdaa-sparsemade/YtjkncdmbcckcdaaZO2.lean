/- Texts of ours, one behind the other: O2 O3 K4 S8 S9 S10 S11 W11 S20 KA1 KA2. -/
import Derived.Test.YtjkncdmbcckcdaaZL10
import Derived.Test.YtjkncdmbcckcdaaZW9
import Derived.Test.YtjkncdmbcckcdaaZK1
import Derived.Test.YtjkncdmbcckcdaaZW7
import Derived.Test.YtjkncdmbcckcdaaZR18
import Derived.Deep.RegionHeld3
import Derived.WalkKit
import Derived.Test.YtjkncdmbcckcdaaZA1
import Derived.Test.YtjkncdmbcckcdaaZW3
import Derived.Test.YtjkncdmbcckcdaaZM3
/- A list of lists of numbers that a statement is given, opened. -/
namespace Go.Proofs.Ytjkncdmbcckcdaa
open Go.ChangeShapes Go.WideShapes Go.ChangeAt Go.RowKit

/-- A matrix that is handed in: m lists of whatever length. -/
structure MatO (ao : Option Addr) (m : Nat) (A : Nat → Option Addr) (N C : Nat → Nat) (Z : Nat → Nat → Int) (w : World) : Prop where
  cell : ∀ i, i < m → ∃ b off, ao = some ⟨b, off, none⟩ ∧ w.cell? ⟨b, off + i, none⟩ = some (.slice (A i) (N i) (C i))
  sl : ∀ i, i < m → SlZ (A i) (N i) (Z i) w
  le : ∀ i, i < m → N i ≤ C i
  cap : ∀ i, i < m → C i ≤ 9223372036854775807
  nil : ∀ i, i < m → A i = none → C i = 0
theorem MatO.matZ {ao : Option Addr} {m : Nat} {A : Nat → Option Addr} {N C : Nat → Nat} {Z : Nat → Nat → Int} {w : World} (h : MatO ao m A N C Z w) (hf : ∀ i, i < m → N i ≤ 1000000) : MatZ ao m A N C Z w := ⟨h.cell, h.sl, h.le, h.cap, h.nil, hf⟩

end Go.Proofs.Ytjkncdmbcckcdaa

/- How heavy a list of lists is that a statement is given. -/
namespace Go.Proofs.Ytjkncdmbcckcdaa
open Go.RowKit Go.Sort

/-- The lists' number, and the lengths of the first i, added up to where it is above 6,000. -/
def hvs (N : Nat → Nat) (m : Nat) : Nat → Nat
  | 0 => m
  | i + 1 => if hvs N m i ≤ 6000 then hvs N m i + N i else hvs N m i
theorem hvs_stay {N : Nat → Nat} {m i : Nat} (h : ¬ hvs N m i ≤ 6000) : ∀ d, hvs N m (i + d) = hvs N m i
  | 0 => rfl
  | d + 1 => by
    show (if hvs N m (i + d) ≤ 6000 then hvs N m (i + d) + N (i + d) else hvs N m (i + d)) = _
    rw [hvs_stay h d, if_neg h]
theorem hvs_few {N : Nat → Nat} {m : Nat} : ∀ i, hvs N m i ≤ 6000 → m ≤ 6000 ∧ ∀ j, j < i → N j ≤ 6000
  | 0, h => ⟨h, fun j hj => by omega⟩
  | i + 1, h => by
    by_cases e : hvs N m i ≤ 6000
    · have h' : (if hvs N m i ≤ 6000 then hvs N m i + N i else hvs N m i) ≤ 6000 := h
      rw [if_pos e] at h'
      have ih := hvs_few i e
      refine ⟨ih.1, fun j hj => ?_⟩
      by_cases e2 : j = i
      · rw [e2]; omega
      · exact ih.2 j (by omega)
    · have h' : (if hvs N m i ≤ 6000 then hvs N m i + N i else hvs N m i) ≤ 6000 := h
      rw [if_neg e] at h'
      exact absurd h' e

set_option maxHeartbeats 2000000 in
set_option maxRecDepth 100000 in
theorem heavy_any {ao : Option Addr} {m ca : Nat} {A : Nat → Option Addr} {N C : Nat → Nat} {w : World} (hc : ∀ i, i < m → ∃ b off, ao = some ⟨b, off, none⟩ ∧ w.cell? ⟨b, off + i, none⟩ = some (.slice (A i) (N i) (C i))) (hm : m ≤ 17592186044416) (hN : ∀ i, i < m → N i ≤ 17592186044416) :
    Calls Try.prog 20 #[.slice ao m ca] w fun r w' => r = .returned (.bool (decide (6000 < hvs N m m))) ∧ w' = w := by
  have HC : Hid ((∀ i, i < m → ∃ b off, ao = some ⟨b, off, none⟩ ∧ w.cell? ⟨b, off + i, none⟩ = some (.slice (A i) (N i) (C i))) ∧ ∀ i, i < m → N i ≤ 17592186044416) := ⟨hc, hN⟩
  clear hc hN
  go_enter Try.func20, Try.ntmps20
  go_wp2
  go_loopw [3, 4] (fun vn vi wr => ∃ (s i : Nat), i ≤ m ∧ vn = .int .i64 s ∧ vi = .int .i64 i ∧ s ≤ 17592186044416 + 17592186044416 ∧ Hid (s = hvs N m i) ∧ wr = w) (fun _ vi _ => m - (intOf vi).toNat)
  case atStart => exact ⟨m, 0, by omega, rfl, rfl, by omega, (show Hid _ from rfl), rfl⟩
  case round =>
    obtain ⟨s, i, hi, rfl, rfl, hs, HG, hw⟩ := hrel
    have hw := hw.symm
    subst hw
    by_cases hlt : i < m
    · have hib : (i : Int) < (m : Int) := by omega
      by_cases h6 : s ≤ 6000
      · have h6b : (s : Int) ≤ 6000 := by omega
        obtain ⟨b, off, rfl, hcl⟩ := HC.out.1 i hlt
        have hNi := HC.out.2 i hlt
        obtain ⟨x, hx⟩ : ∃ x, x = N i := ⟨_, rfl⟩
        rw [← hx] at hcl hNi
        have HV : Hid (s + x = hvs N m (i + 1)) := by
          show s + x = if hvs N m i ≤ 6000 then hvs N m i + N i else hvs N m i
          rw [← HG.out, if_pos h6, hx]
        clear hx
        go_wp2
        go_roundw
        case rel => exact ⟨s + x, i + 1, by omega, by go_num, by go_num, by omega, HV.out, by first | rfl | trivial⟩
        case measure => simp [intOf]; omega
      · have h6b : ¬ (s : Int) ≤ 6000 := by omega
        have h6c : (6000 : Int) < (s : Int) := by omega
        have HV : Hid (decide (6000 < hvs N m m) = true) := by
          show _ = _
          have h1 := hvs_stay (N := N) (m := m) (i := i) (by rw [← HG.out]; exact h6) (m - i)
          rw [show i + (m - i) = m from by omega] at h1
          rw [decide_eq_true_eq, h1, ← HG.out]; omega
        clear h6
        go_wp2
        go_ret
        exact ⟨by rw [HV.out]; rfl, rfl⟩
    · have hib : ¬ (i : Int) < (m : Int) := by omega
      have hie : m = i := by omega
      subst hie
      by_cases h6 : s ≤ 6000
      · have h6c : ¬ (6000 : Int) < (s : Int) := by omega
        have HV : Hid (decide (6000 < hvs N m m) = false) := by
          show _ = _
          rw [decide_eq_false_iff_not, ← HG.out]; omega
        clear h6
        go_wp2
        go_ret
        exact ⟨by rw [HV.out]; rfl, rfl⟩
      · have h6c : (6000 : Int) < (s : Int) := by omega
        have HV : Hid (decide (6000 < hvs N m m) = true) := by
          show _ = _
          rw [decide_eq_true_eq, ← HG.out]; omega
        clear h6
        go_wp2
        go_ret
        exact ⟨by rw [HV.out]; rfl, rfl⟩
end Go.Proofs.Ytjkncdmbcckcdaa

/- Matrices out of raw numbers (MatrixOf). -/
namespace Go.Proofs.Ytjkncdmbcckcdaa
open Go.RowKit Go.Sort

def slA (v : Value) : Option Addr := match v with | .slice a _ _ => a | _ => none
def slC (v : Value) : Nat := match v with | .slice _ _ c => c | _ => 0
end Go.Proofs.Ytjkncdmbcckcdaa

/- Plain mathematics: the shortest rule of a list (Berlekamp and Massey). -/
namespace Go.Proofs.Ytjkncdmbcckcdaa

end Go.Proofs.Ytjkncdmbcckcdaa

/- Equations that can be met, and the rules of shorter length. -/
namespace Go.Proofs.Ytjkncdmbcckcdaa
open Go.RowKit Go.Sort

end Go.Proofs.Ytjkncdmbcckcdaa

/- Lists that a rule makes: the shortest rule of enough of them makes the rest. -/
namespace Go.Proofs.Ytjkncdmbcckcdaa
open Go.RowKit Go.Sort

end Go.Proofs.Ytjkncdmbcckcdaa

/- A polynomial that is not nought has fewer roots than coefficients; words of few coefficients are far apart. -/
namespace Go.Proofs.Ytjkncdmbcckcdaa
open Go.RowKit Go.Sort

/-- How many of the first n. -/
def ct (p : Nat → Bool) : Nat → Nat
  | 0 => 0
  | n + 1 => ct p n + if p n = true then 1 else 0
end Go.Proofs.Ytjkncdmbcckcdaa

/- A region that draws its order and whose last operation, which waits for all others, writes what another one reads. No Go text here. -/
namespace Go.Proofs.Ytjkncdmbcckcdaa
open Go

/-- Does number L wait for number i? -/
def waitsB (ops : Array Oper) (L i : Nat) : Bool := ((ops[L]?).map fun o => o.after.any fun e => Region.binds .any e && e.on == i).getD false
end Go.Proofs.Ytjkncdmbcckcdaa

/- Plain mathematics: how many sets there are; Krawtchouk's numbers. No Go text here. -/
namespace Go.Proofs.Ytjkncdmbcckcdaa

end Go.Proofs.Ytjkncdmbcckcdaa

/- Weights: powers and numbers of sets (the program's power, over). -/
namespace Go.Proofs.Ytjkncdmbcckcdaa
open Go.RowKit

end Go.Proofs.Ytjkncdmbcckcdaa

/- Weights: Krawtchouk's numbers (the program's krawtchouk). -/
namespace Go.Proofs.Ytjkncdmbcckcdaa
open Go.RowKit

end Go.Proofs.Ytjkncdmbcckcdaa
