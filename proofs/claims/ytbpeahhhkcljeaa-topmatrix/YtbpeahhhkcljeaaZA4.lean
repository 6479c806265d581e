/- The calls that make a field's table, one by one: an element times x (timesX). -/
import Derived.Test.YtbpeahhhkcljeaaZA2
namespace Go.Proofs.Ytbpeahhhkcljeaa
open Go.RowKit

/-- What a table has to hold for sums: its size, its prime. -/
structure TabS (p q : Nat) (g : Nat → Value) : Prop where
  c0 : g 0 = .int .i64 q
  c1 : g 1 = .int .i64 p
  two : Two p q

theorem TabS.congr {p q : Nat} {f g : Nat → Value} (h : TabS p q f) (e : ∀ o, o < 5 → o ≠ 2 → o ≠ 3 → o ≠ 4 → g o = f o) : TabS p q g :=
  ⟨(e 0 (by omega) (by omega) (by omega) (by omega)).trans h.c0, (e 1 (by omega) (by omega) (by omega) (by omega)).trans h.c1, h.two⟩

set_option maxHeartbeats 2000000 in
theorem timesX_any (T p q a low : Nat) (f : Nat → Value) (w : World) (hp1 : 2 ≤ p) (hp2 : p ≤ 64) (hq0 : 1 ≤ q) (hq : q ≤ 64) (ha : a < q) (hl : low < q)
    (hsum : ∀ a b, a < q → b < q → sumD p q a b < q) (hneg : ∀ a, a < q → negD p q a < q)
    (hr : RowF T 133 125 f w) (ht : TabS p q f) :
    Calls Try.prog 127 #[.pointer (some ⟨T, 0, none⟩), .int .i64 a, .int .i64 low] w fun e w' => e = .returned (.int .i64 (timesX p q low a)) ∧ ∃ n, w' = w.drewN n := by
  have hc0 : w.cell? ⟨T, 0, none⟩ = some (.int .i64 q) := by rw [hr.cell 0 (by omega), ht.c0]
  have hc1 : w.cell? ⟨T, 1, none⟩ = some (.int .i64 p) := by rw [hr.cell 1 (by omega), ht.c1]
  have HR : Hid (Two p q) := ht.two
  have HS : Hid (∀ a b, a < q → b < q → sumD p q a b < q) := hsum
  have hn := hneg low hl
  clear hr ht hsum hneg
  have h1 : a * p ≤ 64 * 64 := Nat.mul_le_mul (by omega) (by omega)
  have h2 : a * p / q ≤ 64 * 64 := Nat.le_trans (Nat.div_le_self _ _) h1
  have h3 : a * p % q < q := Nat.mod_lt _ (by omega)
  have h4 : (a : Int) * (p : Int) ≤ 4096 := by rw [← Int.natCast_mul]; omega
  have h5 : 0 ≤ (a : Int) * (p : Int) := by rw [← Int.natCast_mul]; omega
  go_enter Try.func127, Try.ntmps127
  go_wp2
  go_quiet (fail)
  go_wp2
  go_loopw [8, 32] (fun r i wr => ∃ k x : Nat, k ≤ a * p / q ∧ x < q ∧ r = .int .i64 x ∧ i = .int .i64 k ∧ Hid (x = again (fun r => sumD p q r (negD p q low)) k (a * p % q)) ∧ ∃ n, wr = w.drewN n) (fun _ i _ => a * p / q - (intOf i).toNat)
  case atStart => exact ⟨0, a * p % q, Nat.zero_le _, h3, rfl, rfl, rfl, nq, rfl⟩
  case round =>
    obtain ⟨k, x, hk, hx, rfl, rfl, HX, n, rfl⟩ := hrel
    have hs := HS.out x (negD p q low) hx hn
    by_cases hlt : k < a * p / q
    · have hi : (k : Int) < (a : Int) * (p : Int) / (q : Int) := by rw [← Int.natCast_mul, ← Int.natCast_ediv]; omega
      go_wp2_with fail
      refine (opposite_any T p q low _ hp1 hp2 hq hl HR.out (by exact hc0) (by exact hc1)).mono ?_
      rintro e w' ⟨rfl, n1, rfl⟩
      go_wp2_with fail
      refine (sum_any T p q x (negD p q low) _ hp1 hp2 hq hx hn HR.out (by exact hc0) (by exact hc1)).mono ?_
      rintro e w' ⟨rfl, n2, rfl⟩
      go_wp2
      go_roundw
      case rel => exact ⟨k + 1, sumD p q x (negD p q low), by omega, hs, by go_num, rfl, by rw [HX.out]; rfl, _, by first | rfl | rw [World.drewN_drewN] | rw [World.drewN_drewN, World.drewN_drewN]⟩
      case measure => simp [intOf]; omega
    · have hi : ¬ (k : Int) < (a : Int) * (p : Int) / (q : Int) := by rw [← Int.natCast_mul, ← Int.natCast_ediv]; omega
      have HV : Hid (x = timesX p q low a) := by have : k = a * p / q := by omega
                                                 subst this; exact HX.out
      go_wp2
      go_ret
      exact ⟨ret_int (by rw [HV.out]), _, rfl⟩
end Go.Proofs.Ytbpeahhhkcljeaa
