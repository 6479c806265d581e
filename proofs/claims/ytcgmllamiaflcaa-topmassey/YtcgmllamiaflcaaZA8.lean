/- The program's own search for the prime of which a number is a power (primePower). -/
import Derived.Test.YtcgmllamiaflcaaZA7
namespace Go.Proofs.Ytcgmllamiaflcaa
open Go.RowKit

set_option maxHeartbeats 1000000 in
theorem primePower_any (q : Nat) (w : World) (h2 : 2 ≤ q) (h64 : q ≤ 64) :
    Calls Try.prog 82 #[.int .i64 q] w fun e w' => e = .returned (.tuple #[.int .i64 (pp q).1, .int .i64 (pp q).2]) ∧ w' = w := by
  go_enter Try.func82, Try.ntmps82
  go_wp2
  go_loop [2] (fun p => ∃ k : Nat, 2 ≤ k ∧ k ≤ q ∧ p = .int .i64 k ∧ Hid (∀ r < k, 2 ≤ r → ¬ q % r = 0)) (fun p => q - (intOf p).toNat)
  case atStart => exact ⟨2, by omega, h2, rfl, fun r h h' => by omega⟩
  case round =>
    obtain ⟨k, hk, hkq, rfl, HN⟩ := hrel
    by_cases hd : q % k = 0
    · have hz : ((q : Int) % (k : Int) != 0) = false := by simp; exact_mod_cast hd
      have HD : Hid (q % k = 0) := hd
      clear hd
      go_wp2
      go_loop [0, 3] (fun a m => ∃ j x : Nat, j ≤ 6 ∧ 1 ≤ x ∧ x ≤ 64 ∧ a = .int .i64 x ∧ m = .int .i64 j ∧ Hid (q % k ^ j = 0 ∧ x = q / k ^ j)) (fun a _ => (intOf a).toNat)
      case atStart => exact ⟨0, q, by omega, by omega, by omega, rfl, rfl, by simp [Hid, Nat.mod_one]⟩
      case round =>
        obtain ⟨j, x, hj, hx1, hx, rfl, rfl, HX⟩ := hrel
        by_cases hd : x % k = 0
        · have hz : ((x : Int) % (k : Int) == 0) = true := by simp; exact_mod_cast hd
          have HE : Hid (x % k = 0) := hd
          clear hd
          have hq1 : 1 ≤ x / k := Nat.div_pos (Nat.le_of_dvd (by omega) (Nat.dvd_of_mod_eq_zero HE.out)) (by omega)
          have hq2 : x / k < x := Nat.div_lt_self (by omega) (by omega)
          have hj6 : j + 1 < 7 := pow_le_of_dvd q k (j + 1) (by omega) h2 hk (cut_step q k j HX.out.1 (by rw [← HX.out.2]; exact HE.out))
          go_wp2
          go_round
          case rel => exact ⟨j + 1, x / k, by omega, hq1, by omega, rfl, by go_num, cut_step q k j HX.out.1 (by rw [← HX.out.2]; exact HE.out), by rw [HX.out.2, Nat.div_div_eq_div_mul, Nat.pow_succ]⟩
          case measure =>
            show (((x / k : Nat) : Int)).toNat < ((x : Nat) : Int).toNat
            rw [Int.toNat_natCast, Int.toNat_natCast]; exact hq2
        · have hz : ((x : Int) % (k : Int) == 0) = false := by rw [beq_eq_false_iff_ne]; exact_mod_cast hd
          have HE : Hid (¬ x % k = 0) := hd
          clear hd
          have HP : Hid ((x = 1 → pp q = (k, j)) ∧ (x ≠ 1 → pp q = (0, 0))) := prime_end q k j (by omega) h2 (by omega) hk HD.out HN.out HX.out.1 (by rw [← HX.out.2]; exact HE.out) x HX.out.2
          by_cases h1 : x = 1
          · have hb : ((x : Int) != 1) = false := by rw [h1]; rfl
            have HV : Hid (pp q = (k, j)) := HP.out.1 h1
            clear h1
            go_wp2
            go_ret2
            exact ⟨ret_int2 (by rw [HV.out]) (by rw [HV.out]), rfl⟩
          · have hb : ((x : Int) != 1) = true := by rw [bne_iff_ne]; exact_mod_cast h1
            have HV : Hid (pp q = (0, 0)) := HP.out.2 h1
            clear h1
            go_wp2
            go_ret2
            exact ⟨ret_int2 (by rw [HV.out]; rfl) (by rw [HV.out]; rfl), rfl⟩
    · have hz : ((q : Int) % (k : Int) != 0) = true := by rw [bne_iff_ne]; exact_mod_cast hd
      have HD : Hid (¬ q % k = 0) := hd
      clear hd
      have hne : k ≠ q := by intro e; subst e; exact HD.out (Nat.mod_self _)
      go_wp2
      go_round
      case rel => exact ⟨k + 1, by omega, by omega, by go_num, fun r h h' => if e : r = k then e ▸ HD.out else HN.out r (by omega) h'⟩
      case measure => simp [intOf]; omega
end Go.Proofs.Ytcgmllamiaflcaa
