/- Weights: Krawtchouk's numbers (the program's krawtchouk). -/
import Derived.Test.YtnjbnamcedfjaaaZKA1
namespace Go.Proofs.Ytnjbnamcedfjaaa
open Go.RowKit

theorem kterm_le {q n x j l : Nat} (hq : 2 ≤ q) (hx : x ≤ n) (hp : q ^ n ≤ 1073741824) : chs x j * ((q - 1) ^ l * chs (n - x) l) ≤ 1073741824 := by
  have h1 : chs x j ≤ q ^ x := Nat.le_trans (chs_le x j) (Nat.pow_le_pow_left hq x)
  have h2 := chs_pw (q - 1) (n - x) l
  rw [show q - 1 + 1 = q by omega] at h2
  have h3 : q ^ x * q ^ (n - x) = q ^ n := by rw [← Nat.pow_add, show x + (n - x) = n by omega]
  have h4 := Nat.mul_le_mul h1 h2
  omega
theorem sign_is (j : Nat) : ((-1 : Int) ^ j = 1 ∨ (-1 : Int) ^ j = -1) := by
  induction j with
  | zero => exact Or.inl rfl
  | succ j ih => rw [Int.pow_succ]; rcases ih with h | h <;> rw [h] <;> simp

set_option maxHeartbeats 4000000 in
set_option maxRecDepth 100000 in
theorem kraw_any (q n k x : Nat) (hq : 2 ≤ q) (hq2 : q ≤ 64) (hp : q ^ n ≤ 1073741824) (hk : k ≤ n) (hx : x ≤ n) (w : World) :
    Calls Try.prog 35 #[.int .i64 (q : Nat), .int .i64 (n : Nat), .int .i64 (k : Nat), .int .i64 (x : Nat)] w fun e w' => e = .returned (.int .i64 (krw q n k x (k + 1))) ∧ w' = w := by
  have hn30 : n ≤ 30 := pow30 hq hp
  go_enter Try.func35, Try.ntmps35
  go_wp2
  go_loopw [9, 10, 14] (fun vs vg vj wr => ∃ (j : Nat) (s g : Int), vs = .int .i64 s ∧ vg = .int .i64 g ∧ vj = .int .i64 (j : Nat) ∧ j ≤ k + 1 ∧ Hid (s = krw q n k x j ∧ g = (-1) ^ j ∧ s.natAbs ≤ j * 1073741824) ∧ wr = w) (fun _ _ vj _ => k + 1 - (intOf vj).toNat)
  case atStart => exact ⟨0, 0, 1, rfl, rfl, rfl, by omega, ⟨rfl, rfl, by simp⟩, rfl⟩
  case round =>
    obtain ⟨j, s, g, rfl, rfl, rfl, hj, HS, hw⟩ := hrel
    have hw := hw.symm
    subst hw
    have hsb := HS.out.2.2
    have hs1 : -34359738368 ≤ s ∧ s ≤ 34359738368 := by
      have : j * 1073741824 ≤ 32 * 1073741824 := Nat.mul_le_mul_right _ (by omega)
      omega
    have hg1 : g = 1 ∨ g = -1 := by rw [HS.out.2.1]; exact sign_is j
    have hgb : -1 ≤ g ∧ g ≤ 1 := by omega
    by_cases hlt : j < k + 1
    · have hib : (j : Int) < (k : Int) + 1 := by omega
      obtain ⟨l, hl⟩ : ∃ l, l = k - j := ⟨_, rfl⟩
      obtain ⟨pw, hpw⟩ : ∃ pw, pw = (q - 1) ^ l := ⟨_, rfl⟩
      obtain ⟨o1, ho1⟩ : ∃ o1, o1 = chs x j := ⟨_, rfl⟩
      obtain ⟨o2, ho2⟩ : ∃ o2, o2 = chs (n - x) l := ⟨_, rfl⟩
      have hpwb : pw ≤ 1073741824 := by
        rw [hpw]
        have h1 : (q - 1) ^ l ≤ q ^ l := Nat.pow_le_pow_left (by omega) l
        have h2 : q ^ l ≤ q ^ n := Nat.pow_le_pow_right (by omega) (by omega)
        omega
      have ho1b : o1 ≤ 1073741824 := by
        rw [ho1]
        have h1 := chs_le x j
        have h2 : 2 ^ x ≤ 2 ^ 30 := Nat.pow_le_pow_right (by omega) (by omega)
        omega
      have hterm : o1 * (pw * o2) ≤ 1073741824 := by rw [ho1, hpw, ho2]; exact kterm_le hq hx hp
      have HPw : Hid (Calls Try.prog 37 #[.int .i64 ((q : Int) - 1), .int .i64 ((k : Int) - (j : Int))] w fun e w' => e = .returned (.int .i64 (pw : Nat)) ∧ w' = w) := by
        show Calls _ _ _ _ _
        rw [show (q : Int) - 1 = ((q - 1 : Nat) : Int) by omega, show (k : Int) - (j : Int) = ((l : Nat) : Int) by omega, hpw]
        exact wpow_is (q - 1) l (by omega) (by omega) (by omega) (by rw [← hpw]; exact hpwb) w
      have HO1 : Hid (Calls Try.prog 77 #[.int .i64 (x : Nat), .int .i64 (j : Nat)] w fun e w' => e = .returned (.int .i64 (o1 : Nat)) ∧ w' = w) := by
        show Calls _ _ _ _ _
        rw [ho1]; exact wover_any x j (by omega) (by omega) w
      have HO2 : Hid (Calls Try.prog 77 #[.int .i64 ((n : Int) - (x : Int)), .int .i64 ((k : Int) - (j : Int))] w fun e w' => e = .returned (.int .i64 (o2 : Nat)) ∧ w' = w) := by
        show Calls _ _ _ _ _
        rw [show (n : Int) - (x : Int) = ((n - x : Nat) : Int) by omega, show (k : Int) - (j : Int) = ((l : Nat) : Int) by omega, ho2]
        exact wover_any (n - x) l (by omega) (by omega) w
      obtain ⟨A1, hA1⟩ : ∃ A1 : Int, A1 = g * (pw : Int) := ⟨_, rfl⟩
      obtain ⟨A2, hA2⟩ : ∃ A2 : Int, A2 = A1 * (o1 : Int) := ⟨_, rfl⟩
      obtain ⟨A3, hA3⟩ : ∃ A3 : Int, A3 = A2 * (o2 : Int) := ⟨_, rfl⟩
      have a1 : A1.natAbs = pw := by rw [hA1, Int.natAbs_mul]; rcases hg1 with h | h <;> rw [h] <;> simp
      have a2 : A2.natAbs = pw * o1 := by rw [hA2, Int.natAbs_mul, a1]; simp
      have a3 : A3.natAbs = o1 * (pw * o2) := by
        rw [hA3, Int.natAbs_mul, a2]
        simp only [Int.natAbs_natCast]
        rw [Nat.mul_comm pw o1, Nat.mul_assoc]
      have hb2 : pw * o1 ≤ 1073741824 * 1073741824 := Nat.mul_le_mul hpwb ho1b
      have hw1 : IntKind.i64.wrap (g * (pw : Int)) = A1 := by rw [← hA1]; exact wrap_ka (by omega) (by omega)
      have hw2 : IntKind.i64.wrap (A1 * (o1 : Int)) = A2 := by rw [← hA2]; exact wrap_ka (by omega) (by omega)
      have hw3 : IntKind.i64.wrap (A2 * (o2 : Int)) = A3 := by rw [← hA3]; exact wrap_ka (by omega) (by omega)
      have hA3b : -1073741824 ≤ A3 ∧ A3 ≤ 1073741824 := by omega
      have HR : Hid (s + A3 = krw q n k x (j + 1) ∧ -g = (-1) ^ (j + 1) ∧ (s + A3).natAbs ≤ (j + 1) * 1073741824) := by
        refine ⟨?_, ?_, ?_⟩
        · show s + A3 = krw q n k x j + (-1) ^ j * (chs x j : Nat) * bl ((q : Int) - 1) (n - x) (k - j)
          rw [HS.out.1, hA3, hA2, hA1, HS.out.2.1, ho1, ho2, hpw, ← hl]
          unfold bl
          rw [show ((q : Int) - 1) = ((q - 1 : Nat) : Int) by omega, ← Int.natCast_pow]
          have e : ∀ a b c d : Int, a * b * c * d = a * c * (b * d) := fun a b c d => by
            rw [Int.mul_assoc a b c, Int.mul_comm b c, ← Int.mul_assoc a c b, Int.mul_assoc (a * c) b d]
          rw [e]
        · rw [HS.out.2.1, Int.pow_succ]; simp
        · have := Int.natAbs_add_le s A3
          rw [Nat.add_mul, Nat.one_mul]
          omega
      clear hA1 hA2 hA3 a1 a2 a3 hb2 hterm hpw ho1 ho2 hl hg1 hsb HS
      go_wp2_with fail
      refine HPw.out.mono ?_
      rintro e w' ⟨rfl, hw⟩
      have hw := hw.symm
      subst hw
      go_wp2_with fail
      refine HO1.out.mono ?_
      rintro e w' ⟨rfl, hw⟩
      have hw := hw.symm
      subst hw
      go_wp2_with fail
      refine HO2.out.mono ?_
      rintro e w' ⟨rfl, hw⟩
      have hw := hw.symm
      subst hw
      go_wp2
      go_roundw
      case rel => exact ⟨j + 1, s + A3, -g, by first | rfl | simp [hw3], by first | rfl | simp, by go_num, by omega, HR.out, by first | rfl | trivial⟩
      case measure => simp [intOf]; omega
    · have hib : ¬ (j : Int) < (k : Int) + 1 := by omega
      have hje : j = k + 1 := by omega
      subst hje
      go_wp2
      go_ret
      exact ⟨by rw [← HS.out.1]; rfl, rfl⟩
end Go.Proofs.Ytnjbnamcedfjaaa
