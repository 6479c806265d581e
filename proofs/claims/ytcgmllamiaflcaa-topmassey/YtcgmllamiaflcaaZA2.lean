/- The calls that make a field's table, one by one: sums. -/
import Derived.Test.YtcgmllamiaflcaaZA1
import Derived.Test.YtcgmllamiaflcaaZM1
import Derived.Deep.QuietTactic
import Derived.BigQuiet
namespace Go.Proofs.Ytcgmllamiaflcaa
open Go.RowKit

theorem w_nat (a : Nat) (h : a ≤ 9223372036854775807) : wrap64 (a : Int) = (a : Int) := by unfold wrap64; omega
theorem w_quo (a b : Nat) (h : a ≤ 9223372036854775807) : wrap64 ((a : Int) / (b : Int)) = ((a / b : Nat) : Int) :=
  w_nat (a / b) (Nat.le_trans (Nat.div_le_self a b) h)

theorem sum_step (x a b y p : Nat) (hx : x ≤ 28672) (h1 : a / y ≤ 64) (h2 : b / y ≤ 64) (h4 : (a / y + b / y) % p * y ≤ 64 * 64) (ha : a < 64) (hb : b < 64) :
    wrap64 ((x : Int) + wrap64 ((wrap64 (wrap64 ((a : Int) / (y : Int)) + wrap64 ((b : Int) / (y : Int)))).tmod (p : Int) * (y : Int))) = ((x + (a / y + b / y) % p * y : Nat) : Int) := by
  rw [w_quo a y (by omega), w_quo b y (by omega)]
  have e1 : wrap64 (((a / y : Nat) : Int) + ((b / y : Nat) : Int)) = ((a / y + b / y : Nat) : Int) := w_nat (a / y + b / y) (by omega)
  rw [e1]
  have e2 : (((a / y + b / y : Nat) : Int).tmod (p : Int) * (y : Int)) = (((a / y + b / y) % p * y : Nat) : Int) := rfl
  rw [e2, w_nat _ (by omega)]
  exact w_nat (x + (a / y + b / y) % p * y) (by omega)

theorem xor64_chk : ((List.range 64).all fun a => (List.range 64).all fun b => bits .xor .i64 (a : Int) (b : Int) == ((a ^^^ b : Nat) : Int)) = true := by decide +kernel
theorem xor64_nat (a b : Nat) (ha : a < 64) (hb : b < 64) : bits .xor .i64 (a : Int) (b : Int) = ((a ^^^ b : Nat) : Int) := by
  have h := List.all_eq_true.1 xor64_chk a (List.mem_range.2 ha)
  exact beq_iff_eq.1 (List.all_eq_true.1 h b (List.mem_range.2 hb))

set_option maxHeartbeats 1000000 in
theorem sum_any (T p q a b : Nat) (w : World) (hp : 2 ≤ p) (hp2 : p ≤ 64) (hq : q ≤ 64) (ha : a < q) (hb : b < q) (htwo : Two p q)
    (hc0 : w.cell? ⟨T, 0, none⟩ = some (.int .i64 q)) (hc1 : w.cell? ⟨T, 1, none⟩ = some (.int .i64 p)) :
    Calls Try.prog 38 #[.pointer (some ⟨T, 0, none⟩), .int .i64 a, .int .i64 b] w fun e w' => e = .returned (.int .i64 (sumD p q a b)) ∧ ∃ n, w' = w.drewN n := by
  by_cases h2 : p = 2
  · have HV : Hid (sumD p q a b = a ^^^ b) := (htwo h2).1 a b ha hb
    have HX : Hid (bits .xor .i64 (a : Int) (b : Int) = ((a ^^^ b : Nat) : Int)) := xor64_nat a b (by omega) (by omega)
    have hz : ((p : Int) == 2) = true := by rw [h2]; rfl
    clear htwo h2
    go_enter Try.func38, Try.ntmps38
    go_wp2
    go_ret
    exact ⟨ret_int (by rw [HV.out, ← HX.out]), 0, rfl⟩
  have hz : ((p : Int) == 2) = false := by rw [beq_eq_false_iff_ne]; omega
  clear htwo h2
  have hD := sumD_le p q a b (by omega) hp2 hq
  go_enter Try.func38, Try.ntmps38
  go_wp2
  go_loopw [7, 8] (fun s u wr => ∃ j x y : Nat, 1 ≤ y ∧ y ≤ 4096 ∧ x ≤ 28672 ∧ 2 ^ j ≤ y ∧ s = .int .i64 x ∧ u = .int .i64 y ∧ Hid (x + sumFrom p q a b (7 - j) y = sumD p q a b) ∧ ∃ n, wr = w.drewN n) (fun _ u _ => 64 - (intOf u).toNat)
  case atStart => exact ⟨0, 0, 1, by omega, by omega, by omega, by omega, rfl, rfl, by simp [Hid, sumD], 0, rfl⟩
  case round =>
    obtain ⟨j, x, y, hy1, hy, hx, hj, rfl, rfl, HS, n, rfl⟩ := hrel
    by_cases hlt : y < q
    · have HJ : Hid (2 ^ j ≤ y) := hj
      clear hj
      have h1 : a / y ≤ 64 := Nat.le_trans (Nat.div_le_self _ _) (by omega)
      have h2 : b / y ≤ 64 := Nat.le_trans (Nat.div_le_self _ _) (by omega)
      have h3 : (a / y + b / y) % p < p := Nat.mod_lt _ (by omega)
      have h4 : (a / y + b / y) % p * y ≤ 64 * 64 := Nat.mul_le_mul (by omega) (by omega)
      have h5 : y * p ≤ 64 * 64 := Nat.mul_le_mul (by omega) (by omega)
      have h6 := mul_gt y p hy1 hp
      have HR : Hid (j < 7 ∧ 2 ^ (j + 1) ≤ y * p ∧ x + (a / y + b / y) % p * y + sumFrom p q a b (7 - (j + 1)) (y * p) = sumD p q a b) := by
        have hj7 : j < 7 := by
          rcases Nat.lt_or_ge j 7 with h | h
          · exact h
          · have : 2 ^ 7 ≤ 2 ^ j := Nat.pow_le_pow_right (by omega) h
            have := HJ.out
            omega
        refine ⟨hj7, by rw [Nat.pow_succ]; exact Nat.mul_le_mul HJ.out hp, ?_⟩
        have := HS.out
        rw [show 7 - j = (7 - (j + 1)) + 1 from by omega, sumFrom_lo p q a b _ y hlt] at this
        omega
      clear HJ
      go_wp2
      go_quiet (fail)
      go_wp2
      go_roundw
      case rel => exact ⟨j + 1, x + (a / y + b / y) % p * y, y * p, by omega, by omega, by have := HR.out.2.2; omega, HR.out.2.1, by rw [sum_step x a b y p hx h1 h2 h4 (by omega) (by omega)], by go_num, HR.out.2.2, _, rfl⟩
      case measure =>
        show 64 - (((y * p : Nat) : Int)).toNat < 64 - ((y : Nat) : Int).toNat
        rw [Int.toNat_natCast, Int.toNat_natCast]; omega
    · have HV : Hid (x = sumD p q a b) := by have := HS.out; rw [sumFrom_hi _ _ _ _ _ _ hlt] at this; show x = _; omega
      go_wp2
      go_ret
      exact ⟨ret_int (by rw [HV.out]), _, rfl⟩
end Go.Proofs.Ytcgmllamiaflcaa
