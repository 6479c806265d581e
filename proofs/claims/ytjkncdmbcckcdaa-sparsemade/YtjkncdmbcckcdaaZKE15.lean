/- Codes of few checks: the reference's Bits. -/
import Derived.Test.YtjkncdmbcckcdaaZKE14
namespace Go.Proofs.Ytjkncdmbcckcdaa
open Go.RowKit Go.Sort

/-- What Bits takes: bits, and gaps where they are allowed. -/
def isbg (g : Bool) (x : Int) : Bool := if g = true then isht x else isbt x

set_option maxHeartbeats 8000000 in
set_option maxRecDepth 100000 in
theorem rbits_any (gp : Bool) {ao : Option Addr} {n cap : Nat} {z : Nat → Int} {w : World} (hs : SlZ ao n z w) (hn : n ≤ 1000000) :
    Calls Try.prog 30 #[.slice ao n cap, .bool gp] w fun e w' => e = .returned (.bool (allP (isbg gp) z n)) ∧ w' = w := by
  obtain ⟨R, hR⟩ : ∃ R, R = allP (isbg gp) z n := ⟨_, rfl⟩
  have HS : Hid (SlZ ao n z w ∧ R = allP (isbg gp) z n) := ⟨hs, hR⟩
  rw [← hR]
  clear hs hR
  go_enter Try.func30, Try.ntmps30
  go_wp2
  go_loopw [5] (fun vi wx => ∃ i : Nat, i ≤ n ∧ vi = .int .i64 (i : Nat) ∧ Hid (allP (isbg gp) z i = true) ∧ wx = w) (fun vi _ => n - (intOf vi).toNat)
  case atStart => exact ⟨0, by omega, rfl, rfl, rfl⟩
  case round =>
    obtain ⟨i, hi, rfl, HI, hwx⟩ := hrel
    have hwx := hwx.symm
    subst hwx
    by_cases hlt : i < n
    · have hib : (i : Int) < (n : Int) := by omega
      have hib0 : (0 : Int) ≤ (i : Int) := by omega
      obtain ⟨b, off, rfl, hc⟩ := HS.out.1 i hlt
      obtain ⟨x, hx⟩ : ∃ x, x = z i := ⟨_, rfl⟩
      rw [← hx] at hc
      have key : ∀ c : Bool, isbg gp x = c → (c = false → R = false) ∧ (c = true → allP (isbg gp) z (i + 1) = true) := fun c hcx => by
        constructor
        · intro h
          rw [HS.out.2]
          exact allP_no (by rw [← hx, hcx, h]) n hlt
        · intro h
          show (allP (isbg gp) z i && isbg gp (z i)) = true
          rw [HI.out, ← hx, hcx, h]; rfl
      by_cases h1 : 1 < x
      · have hg : x > 1 := h1
        have HV : Hid (R = false) := (key false (by unfold isbg isht isbt; cases gp <;> simp <;> omega)).1 rfl
        clear key hx
        go_wp2
        go_ret
        exact ⟨by rw [HV.out]; rfl, rfl⟩
      · have hg : ¬ x > 1 := h1
        by_cases h2 : x < -1
        · have HV : Hid (R = false) := (key false (by unfold isbg isht isbt; cases gp <;> simp <;> omega)).1 rfl
          clear key hx
          go_wp2
          go_ret
          exact ⟨by rw [HV.out]; rfl, rfl⟩
        · by_cases h3 : x = -1
          · have hz : (x == -1) = true := by rw [h3]; rfl
            cases gp with
            | false =>
              have HV : Hid (R = false) := (key false (by rw [h3]; rfl)).1 rfl
              clear key hx h3
              go_wp2
              go_ret
              exact ⟨by rw [HV.out]; rfl, rfl⟩
            | true =>
              have HV : Hid (allP (isbg true) z (i + 1) = true) := (key true (by rw [h3]; rfl)).2 rfl
              clear key hx h3
              go_wp2
              go_roundw
              case rel => exact ⟨i + 1, by omega, by go_num, HV.out, by first | rfl | trivial⟩
              case measure => simp [intOf]; omega
          · have hz : (x == -1) = false := beq_eq_false_iff_ne.2 h3
            have HV : Hid (allP (isbg gp) z (i + 1) = true) := (key true (by unfold isbg isht isbt; cases gp <;> simp <;> omega)).2 rfl
            clear key hx h3
            go_wp2
            go_roundw
            case rel => exact ⟨i + 1, by omega, by go_num, HV.out, by first | rfl | trivial⟩
            case measure => simp [intOf]; omega
    · have hib : ¬ (i : Int) < (n : Int) := by omega
      have hie : n = i := by omega
      subst hie
      have HV : Hid (R = true) := by show _ = _; rw [HS.out.2]; exact HI.out
      go_wp2
      go_ret
      exact ⟨by rw [HV.out]; rfl, rfl⟩
end Go.Proofs.Ytjkncdmbcckcdaa
