/- The calls that make a field's table, one by one: opposites. -/
import Derived.Test.YtaihjfpenbjdiaiA2
namespace Go.Proofs.Ytaihjfpenbjdiai
open Go.RowKit

/-- Sums are below q, and of each element there is at most one opposite. -/
def SumsOk (p q : Nat) : Prop := (∀ a b, a < q → b < q → sumD p q a b < q) ∧ (∀ a b c, a < q → b < q → c < q → sumD p q a b = 0 → sumD p q a c = 0 → b = c)

theorem neg_step (x a y p : Nat) (hx : x ≤ 28672) (hp : 2 ≤ p) (hp2 : p ≤ 64) (h4 : (p - a / y % p) % p * y ≤ 64 * 64) (ha : a < 64) :
    wrap64 ((x : Int) + wrap64 ((wrap64 ((p : Int) - (wrap64 ((a : Int) / (y : Int))).tmod (p : Int))).tmod (p : Int) * (y : Int))) = ((x + (p - a / y % p) % p * y : Nat) : Int) := by
  rw [w_quo a y (by omega)]
  have hm : a / y % p < p := Nat.mod_lt _ (by omega)
  have e0 : ((a / y : Nat) : Int).tmod (p : Int) = ((a / y % p : Nat) : Int) := rfl
  have e1 : wrap64 ((p : Int) - ((a / y % p : Nat) : Int)) = ((p - a / y % p : Nat) : Int) := by
    rw [show (p : Int) - ((a / y % p : Nat) : Int) = ((p - a / y % p : Nat) : Int) from by omega]
    exact w_nat _ (by omega)
  rw [e0, e1]
  have e2 : (((p - a / y % p : Nat) : Int).tmod (p : Int) * (y : Int)) = (((p - a / y % p) % p * y : Nat) : Int) := rfl
  rw [e2, w_nat _ (by omega)]
  exact w_nat (x + (p - a / y % p) % p * y) (by omega)

set_option maxHeartbeats 1000000 in
theorem opposite_any (T p q a : Nat) (w : World) (hp : 2 ≤ p) (hp2 : p ≤ 64) (hq : q ≤ 64) (ha : a < q) (htwo : Two p q)
    (hc0 : w.cell? ⟨T, 0, none⟩ = some (.int .i64 q)) (hc1 : w.cell? ⟨T, 1, none⟩ = some (.int .i64 p)) :
    Calls Try.prog 39 #[.pointer (some ⟨T, 0, none⟩), .int .i64 a] w fun e w' => e = .returned (.int .i64 (negD p q a)) ∧ ∃ n, w' = w.drewN n := by
  by_cases h2 : p = 2
  · have HV : Hid (negD p q a = a) := (htwo h2).2 a ha
    have hz : ((p : Int) == 2) = true := by rw [h2]; rfl
    clear htwo h2
    go_enter Try.func39, Try.ntmps39
    go_wp2
    go_ret
    exact ⟨ret_int (by rw [HV.out]), 0, rfl⟩
  have hz : ((p : Int) == 2) = false := by rw [beq_eq_false_iff_ne]; omega
  clear htwo h2
  have hD := negD_le p q a (by omega) hp2 hq
  go_enter Try.func39, Try.ntmps39
  go_wp2
  go_loopw [5, 6] (fun s u wr => ∃ j x y : Nat, 1 ≤ y ∧ y ≤ 4096 ∧ x ≤ 28672 ∧ 2 ^ j ≤ y ∧ s = .int .i64 x ∧ u = .int .i64 y ∧ Hid (x + negFrom p q a (7 - j) y = negD p q a) ∧ ∃ n, wr = w.drewN n) (fun _ u _ => 64 - (intOf u).toNat)
  case atStart => exact ⟨0, 0, 1, by omega, by omega, by omega, by omega, rfl, rfl, by simp [Hid, negD], 0, rfl⟩
  case round =>
    obtain ⟨j, x, y, hy1, hy, hx, hj, rfl, rfl, HS, n, rfl⟩ := hrel
    by_cases hlt : y < q
    · have HJ : Hid (2 ^ j ≤ y) := hj
      clear hj
      have h1 : a / y ≤ 64 := Nat.le_trans (Nat.div_le_self _ _) (by omega)
      have h3 : (p - a / y % p) % p < p := Nat.mod_lt _ (by omega)
      have h4 : (p - a / y % p) % p * y ≤ 64 * 64 := Nat.mul_le_mul (by omega) (by omega)
      have h5 : y * p ≤ 64 * 64 := Nat.mul_le_mul (by omega) (by omega)
      have h6 := mul_gt y p hy1 hp
      have h7 : a / y % p < p := Nat.mod_lt _ (by omega)
      have HR : Hid (j < 7 ∧ 2 ^ (j + 1) ≤ y * p ∧ x + (p - a / y % p) % p * y + negFrom p q a (7 - (j + 1)) (y * p) = negD p q a) := by
        have hj7 : j < 7 := by
          rcases Nat.lt_or_ge j 7 with h | h
          · exact h
          · have : 2 ^ 7 ≤ 2 ^ j := Nat.pow_le_pow_right (by omega) h
            have := HJ.out
            omega
        refine ⟨hj7, by rw [Nat.pow_succ]; exact Nat.mul_le_mul HJ.out hp, ?_⟩
        have := HS.out
        rw [show 7 - j = (7 - (j + 1)) + 1 from by omega, negFrom_lo p q a _ y hlt] at this
        omega
      clear HJ
      go_wp2
      go_quiet (fail)
      go_wp2
      go_roundw
      case rel => exact ⟨j + 1, x + (p - a / y % p) % p * y, y * p, by omega, by omega, by have := HR.out.2.2; omega, HR.out.2.1, by rw [neg_step x a y p hx hp hp2 h4 (by omega)], by go_num, HR.out.2.2, _, rfl⟩
      case measure =>
        show 64 - (((y * p : Nat) : Int)).toNat < 64 - ((y : Nat) : Int).toNat
        rw [Int.toNat_natCast, Int.toNat_natCast]; omega
    · have HV : Hid (x = negD p q a) := by have := HS.out; rw [negFrom_hi _ _ _ _ _ hlt] at this; show x = _; omega
      go_wp2
      go_ret
      exact ⟨ret_int (by rw [HV.out]), _, rfl⟩
end Go.Proofs.Ytaihjfpenbjdiai
