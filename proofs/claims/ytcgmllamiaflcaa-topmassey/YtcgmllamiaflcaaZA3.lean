/- Texts of ours, one behind the other: A3 A4. -/
import Derived.Test.YtcgmllamiaflcaaZA2
/- The calls that make a field's table, one by one: opposites. -/
namespace Go.Proofs.Ytcgmllamiaflcaa
open Go.RowKit

/-- Sums are below q, and of each element there is at most one opposite. -/
def SumsOk (p q : Nat) : Prop := (∀ a b, a < q → b < q → sumD p q a b < q) ∧ (∀ a b c, a < q → b < q → c < q → sumD p q a b = 0 → sumD p q a c = 0 → b = c)

theorem neg_step (x a y p : Nat) (hx : x ≤ 28672) (hp : 2 ≤ p) (hp2 : p ≤ 64) (h4 : (p - a / y % p) % p * y ≤ 64 * 64) (ha : a < 64) :
    wrap64 ((x : Int) + wrap64 ((wrap64 ((p : Int) - (wrap64 ((a : Int) / (y : Int))).tmod (p : Int))).tmod (p : Int) * (y : Int))) = ((x + (p - a / y % p) % p * y : Nat) : Int) := by
  rw [w_quo a y (by omega)]
  have hm : a / y % p < p := Nat.mod_lt _ (by omega)
  have e0 : ((a / y : Nat) : Int).tmod (p : Int) = ((a / y % p : Nat) : Int) := rfl
  have e1 : wrap64 ((p : Int) - ((a / y % p : Nat) : Int)) = ((p - a / y % p : Nat) : Int) := by
    rw [show (p : Int) - ((a / y % p : Nat) : Int) = ((p - a / y % p : Nat) : Int) from by omega]
    exact w_nat _ (by omega)
  rw [e0, e1]
  have e2 : (((p - a / y % p : Nat) : Int).tmod (p : Int) * (y : Int)) = (((p - a / y % p) % p * y : Nat) : Int) := rfl
  rw [e2, w_nat _ (by omega)]
  exact w_nat (x + (p - a / y % p) % p * y) (by omega)

set_option maxHeartbeats 1000000 in
theorem opposite_any (T p q a : Nat) (w : World) (hp : 2 ≤ p) (hp2 : p ≤ 64) (hq : q ≤ 64) (ha : a < q) (htwo : Two p q)
    (hc0 : w.cell? ⟨T, 0, none⟩ = some (.int .i64 q)) (hc1 : w.cell? ⟨T, 1, none⟩ = some (.int .i64 p)) :
    Calls Try.prog 68 #[.pointer (some ⟨T, 0, none⟩), .int .i64 a] w fun e w' => e = .returned (.int .i64 (negD p q a)) ∧ ∃ n, w' = w.drewN n := by
  by_cases h2 : p = 2
  · have HV : Hid (negD p q a = a) := (htwo h2).2 a ha
    have hz : ((p : Int) == 2) = true := by rw [h2]; rfl
    clear htwo h2
    go_enter Try.func68, Try.ntmps68
    go_wp2
    go_ret
    exact ⟨ret_int (by rw [HV.out]), 0, rfl⟩
  have hz : ((p : Int) == 2) = false := by rw [beq_eq_false_iff_ne]; omega
  clear htwo h2
  have hD := negD_le p q a (by omega) hp2 hq
  go_enter Try.func68, Try.ntmps68
  go_wp2
  go_loopw [5, 6] (fun s u wr => ∃ j x y : Nat, 1 ≤ y ∧ y ≤ 4096 ∧ x ≤ 28672 ∧ 2 ^ j ≤ y ∧ s = .int .i64 x ∧ u = .int .i64 y ∧ Hid (x + negFrom p q a (7 - j) y = negD p q a) ∧ ∃ n, wr = w.drewN n) (fun _ u _ => 64 - (intOf u).toNat)
  case atStart => exact ⟨0, 0, 1, by omega, by omega, by omega, by omega, rfl, rfl, by simp [Hid, negD], 0, rfl⟩
  case round =>
    obtain ⟨j, x, y, hy1, hy, hx, hj, rfl, rfl, HS, n, rfl⟩ := hrel
    by_cases hlt : y < q
    · have HJ : Hid (2 ^ j ≤ y) := hj
      clear hj
      have h1 : a / y ≤ 64 := Nat.le_trans (Nat.div_le_self _ _) (by omega)
      have h3 : (p - a / y % p) % p < p := Nat.mod_lt _ (by omega)
      have h4 : (p - a / y % p) % p * y ≤ 64 * 64 := Nat.mul_le_mul (by omega) (by omega)
      have h5 : y * p ≤ 64 * 64 := Nat.mul_le_mul (by omega) (by omega)
      have h6 := mul_gt y p hy1 hp
      have h7 : a / y % p < p := Nat.mod_lt _ (by omega)
      have HR : Hid (j < 7 ∧ 2 ^ (j + 1) ≤ y * p ∧ x + (p - a / y % p) % p * y + negFrom p q a (7 - (j + 1)) (y * p) = negD p q a) := by
        have hj7 : j < 7 := by
          rcases Nat.lt_or_ge j 7 with h | h
          · exact h
          · have : 2 ^ 7 ≤ 2 ^ j := Nat.pow_le_pow_right (by omega) h
            have := HJ.out
            omega
        refine ⟨hj7, by rw [Nat.pow_succ]; exact Nat.mul_le_mul HJ.out hp, ?_⟩
        have := HS.out
        rw [show 7 - j = (7 - (j + 1)) + 1 from by omega, negFrom_lo p q a _ y hlt] at this
        omega
      clear HJ
      go_wp2
      go_quiet (fail)
      go_wp2
      go_roundw
      case rel => exact ⟨j + 1, x + (p - a / y % p) % p * y, y * p, by omega, by omega, by have := HR.out.2.2; omega, HR.out.2.1, by rw [neg_step x a y p hx hp hp2 h4 (by omega)], by go_num, HR.out.2.2, _, rfl⟩
      case measure =>
        show 64 - (((y * p : Nat) : Int)).toNat < 64 - ((y : Nat) : Int).toNat
        rw [Int.toNat_natCast, Int.toNat_natCast]; omega
    · have HV : Hid (x = negD p q a) := by have := HS.out; rw [negFrom_hi _ _ _ _ _ hlt] at this; show x = _; omega
      go_wp2
      go_ret
      exact ⟨ret_int (by rw [HV.out]), _, rfl⟩
end Go.Proofs.Ytcgmllamiaflcaa

/- The calls that make a field's table, one by one: an element times x (timesX). -/
namespace Go.Proofs.Ytcgmllamiaflcaa
open Go.RowKit

/-- What a table has to hold for sums: its size, its prime. -/
structure TabS (p q : Nat) (g : Nat → Value) : Prop where
  c0 : g 0 = .int .i64 q
  c1 : g 1 = .int .i64 p
  two : Two p q

theorem TabS.congr {p q : Nat} {f g : Nat → Value} (h : TabS p q f) (e : ∀ o, o < 5 → o ≠ 2 → o ≠ 3 → o ≠ 4 → g o = f o) : TabS p q g :=
  ⟨(e 0 (by omega) (by omega) (by omega) (by omega)).trans h.c0, (e 1 (by omega) (by omega) (by omega) (by omega)).trans h.c1, h.two⟩

set_option maxHeartbeats 2000000 in
theorem timesX_any (T p q a low : Nat) (f : Nat → Value) (w : World) (hp1 : 2 ≤ p) (hp2 : p ≤ 64) (hq0 : 1 ≤ q) (hq : q ≤ 64) (ha : a < q) (hl : low < q)
    (hsum : ∀ a b, a < q → b < q → sumD p q a b < q) (hneg : ∀ a, a < q → negD p q a < q)
    (hr : RowF T 133 59 f w) (ht : TabS p q f) :
    Calls Try.prog 97 #[.pointer (some ⟨T, 0, none⟩), .int .i64 a, .int .i64 low] w fun e w' => e = .returned (.int .i64 (timesX p q low a)) ∧ ∃ n, w' = w.drewN n := by
  have hc0 : w.cell? ⟨T, 0, none⟩ = some (.int .i64 q) := by rw [hr.cell 0 (by omega), ht.c0]
  have hc1 : w.cell? ⟨T, 1, none⟩ = some (.int .i64 p) := by rw [hr.cell 1 (by omega), ht.c1]
  have HR : Hid (Two p q) := ht.two
  have HS : Hid (∀ a b, a < q → b < q → sumD p q a b < q) := hsum
  have hn := hneg low hl
  clear hr ht hsum hneg
  have h1 : a * p ≤ 64 * 64 := Nat.mul_le_mul (by omega) (by omega)
  have h2 : a * p / q ≤ 64 * 64 := Nat.le_trans (Nat.div_le_self _ _) h1
  have h3 : a * p % q < q := Nat.mod_lt _ (by omega)
  have h4 : (a : Int) * (p : Int) ≤ 4096 := by rw [← Int.natCast_mul]; omega
  have h5 : 0 ≤ (a : Int) * (p : Int) := by rw [← Int.natCast_mul]; omega
  go_enter Try.func97, Try.ntmps97
  go_wp2
  go_quiet (fail)
  go_wp2
  go_loopw [8, 32] (fun r i wr => ∃ k x : Nat, k ≤ a * p / q ∧ x < q ∧ r = .int .i64 x ∧ i = .int .i64 k ∧ Hid (x = again (fun r => sumD p q r (negD p q low)) k (a * p % q)) ∧ ∃ n, wr = w.drewN n) (fun _ i _ => a * p / q - (intOf i).toNat)
  case atStart => exact ⟨0, a * p % q, Nat.zero_le _, h3, rfl, rfl, rfl, nq, rfl⟩
  case round =>
    obtain ⟨k, x, hk, hx, rfl, rfl, HX, n, rfl⟩ := hrel
    have hs := HS.out x (negD p q low) hx hn
    by_cases hlt : k < a * p / q
    · have hi : (k : Int) < (a : Int) * (p : Int) / (q : Int) := by rw [← Int.natCast_mul, ← Int.natCast_ediv]; omega
      go_wp2_with fail
      refine (opposite_any T p q low _ hp1 hp2 hq hl HR.out (by exact hc0) (by exact hc1)).mono ?_
      rintro e w' ⟨rfl, n1, rfl⟩
      go_wp2_with fail
      refine (sum_any T p q x (negD p q low) _ hp1 hp2 hq hx hn HR.out (by exact hc0) (by exact hc1)).mono ?_
      rintro e w' ⟨rfl, n2, rfl⟩
      go_wp2
      go_roundw
      case rel => exact ⟨k + 1, sumD p q x (negD p q low), by omega, hs, by go_num, rfl, by rw [HX.out]; rfl, _, by first | rfl | rw [World.drewN_drewN] | rw [World.drewN_drewN, World.drewN_drewN]⟩
      case measure => simp [intOf]; omega
    · have hi : ¬ (k : Int) < (a : Int) * (p : Int) / (q : Int) := by rw [← Int.natCast_mul, ← Int.natCast_ediv]; omega
      have HV : Hid (x = timesX p q low a) := by have : k = a * p / q := by omega
                                                 subst this; exact HX.out
      go_wp2
      go_ret
      exact ⟨ret_int (by rw [HV.out]), _, rfl⟩
end Go.Proofs.Ytcgmllamiaflcaa
