/- Weights: powers and numbers of sets (the program's power, over). -/
import Derived.Test.YtnjbnamcedfjaaaZS20
import Derived.Test.YtnjbnamcedfjaaaZR3
import Derived.Test.YtnjbnamcedfjaaaZB1
namespace Go.Proofs.Ytnjbnamcedfjaaa
open Go.RowKit

theorem wrap_ka {a : Int} (h1 : -9223372036854775808 ≤ a) (h2 : a ≤ 9223372036854775807) : IntKind.i64.wrap a = a := by
  rw [IntKind.wrap_i64]
  first | omega | (unfold wrap64; omega)
theorem pow30 {b i : Nat} (hb : 2 ≤ b) (h : b ^ i ≤ 1073741824) : i ≤ 30 := by
  refine Classical.byContradiction fun hn => ?_
  have h1 : 2 ^ i ≤ b ^ i := Nat.pow_le_pow_left hb i
  have h2 : 2 ^ 31 ≤ 2 ^ i := Nat.pow_le_pow_right (by omega) (by omega)
  omega
/-- What power tells. -/
def PwB (b : Nat) (t : Int) (w : World) (e : Ending) (w' : World) : Prop := ∃ v : Nat, e = .returned (.int .i64 (v : Nat)) ∧ w' = w ∧ ((b ^ t.toNat ≤ 1073741824 ∧ v = b ^ t.toNat) ∨ (1073741824 < b ^ t.toNat ∧ 1073741824 < v)) ∧ v ≤ 68719476736
set_option maxHeartbeats 2000000 in
theorem wpow_any (b : Nat) (t : Int) (hb : 2 ≤ b) (hb2 : b ≤ 64) (ht : 0 ≤ t) (ht2 : t ≤ 9223372036854775807) (w : World) :
    Calls Try.prog 37 #[.int .i64 (b : Nat), .int .i64 t] w (PwB b t w) := by
  go_enter Try.func37, Try.ntmps37
  go_wp2
  go_loopw [5, 6] (fun vo vi wr => ∃ i o : Nat, vo = .int .i64 (o : Nat) ∧ vi = .int .i64 (i : Nat) ∧ (i : Int) ≤ t ∧ i ≤ 31 ∧ o ≤ 68719476736 ∧ Hid (o = b ^ i) ∧ wr = w) (fun _ vi _ => 32 - (intOf vi).toNat)
  case atStart => exact ⟨0, 1, rfl, rfl, by omega, by omega, by omega, by show 1 = b ^ 0; simp, rfl⟩
  case round =>
    obtain ⟨i, o, rfl, rfl, hi, hi2, ho, HO, hw⟩ := hrel
    have hw := hw.symm
    subst hw
    by_cases hlt : (i : Int) < t
    · by_cases hf : o ≤ 1073741824
      · have hfb : (o : Int) ≤ 1073741824 := by omega
        obtain ⟨y, hy⟩ : ∃ y, y = o * b := ⟨_, rfl⟩
        have hy2 : y ≤ 1073741824 * 64 := by rw [hy]; exact Nat.mul_le_mul hf hb2
        have hwr : IntKind.i64.wrap ((o : Int) * (b : Int)) = (y : Int) := by
          have he : (o : Int) * (b : Int) = (y : Int) := by rw [hy]; simp
          rw [he]; exact wrap_ka (by omega) (by omega)
        have hi30 : i ≤ 30 := pow30 hb (by rw [← HO.out]; exact hf)
        have HY : Hid (y = b ^ (i + 1)) := by show y = _; rw [hy, HO.out, Nat.pow_succ]
        clear hy
        go_wp2
        go_roundw
        case rel => exact ⟨i + 1, y, by first | rfl | simp [hwr], by go_num, by omega, by omega, by omega, HY.out, by first | rfl | trivial⟩
        case measure => simp [intOf]; omega
      · have hfb : ¬ (o : Int) ≤ 1073741824 := by omega
        have HE : Hid (1073741824 < b ^ t.toNat) := by
          show 1073741824 < b ^ t.toNat
          have : b ^ i ≤ b ^ t.toNat := Nat.pow_le_pow_right (by omega) (by omega)
          rw [← HO.out] at this
          omega
        go_wp2
        go_ret
        exact ⟨o, rfl, rfl, Or.inr ⟨HE.out, by omega⟩, ho⟩
    · have hti : t = (i : Int) := by omega
      subst hti
      have HE : Hid ((b ^ (i : Int).toNat ≤ 1073741824 ∧ o = b ^ (i : Int).toNat) ∨ (1073741824 < b ^ (i : Int).toNat ∧ 1073741824 < o)) := by
        show _ ∨ _
        rw [Int.toNat_natCast, ← HO.out]
        by_cases hf : o ≤ 1073741824
        · exact Or.inl ⟨hf, rfl⟩
        · exact Or.inr ⟨by omega, by omega⟩
      go_wp2
      go_ret
      exact ⟨o, rfl, rfl, HE.out, ho⟩
/-- 1 so many times. -/
theorem wpow_one (t : Nat) (ht : t ≤ 1000) (w : World) :
    Calls Try.prog 37 #[.int .i64 1, .int .i64 (t : Nat)] w fun e w' => e = .returned (.int .i64 1) ∧ w' = w := by
  go_enter Try.func37, Try.ntmps37
  go_wp2
  go_loopw [5, 6] (fun vo vi wr => ∃ i : Nat, vo = .int .i64 1 ∧ vi = .int .i64 (i : Nat) ∧ i ≤ t ∧ wr = w) (fun _ vi _ => t - (intOf vi).toNat)
  case atStart => exact ⟨0, rfl, rfl, by omega, rfl⟩
  case round =>
    obtain ⟨i, rfl, rfl, hi, hw⟩ := hrel
    have hw := hw.symm
    subst hw
    by_cases hlt : i < t
    · have hib : (i : Int) < (t : Int) := by omega
      go_wp2
      go_roundw
      case rel => exact ⟨i + 1, by first | rfl | simp, by go_num, by omega, by first | rfl | trivial⟩
      case measure => simp [intOf]; omega
    · have hib : ¬ (i : Int) < (t : Int) := by omega
      go_wp2
      go_ret
      exact ⟨rfl, rfl⟩
/-- A power that is no more than 2^30, told as it is. -/
theorem wpow_is (b t : Nat) (hb : 1 ≤ b) (hb2 : b ≤ 64) (ht : t ≤ 1000) (hp : b ^ t ≤ 1073741824) (w : World) :
    Calls Try.prog 37 #[.int .i64 (b : Nat), .int .i64 (t : Nat)] w fun e w' => e = .returned (.int .i64 (b ^ t : Nat)) ∧ w' = w := by
  by_cases h1 : b = 1
  · subst h1
    rw [Nat.one_pow]
    exact wpow_one t ht w
  · refine (wpow_any b t (by omega) hb2 (by omega) (by omega) w).mono ?_
    rintro e w' ⟨v, rfl, rfl, h, _⟩
    rw [Int.toNat_natCast] at h
    rcases h with h | h
    · exact ⟨by rw [h.2], rfl⟩
    · omega

set_option maxHeartbeats 2000000 in
theorem wover_any (n k : Nat) (hn : n ≤ 30) (hk : k ≤ 1000) (w : World) :
    Calls Try.prog 77 #[.int .i64 (n : Nat), .int .i64 (k : Nat)] w fun e w' => e = .returned (.int .i64 (chs n k : Nat)) ∧ w' = w := by
  go_enter Try.func77, Try.ntmps77
  go_wp2
  go_loopw [5, 8] (fun vo vi wr => ∃ i o : Nat, vo = .int .i64 (o : Nat) ∧ vi = .int .i64 (i : Nat) ∧ i ≤ k ∧ o ≤ 1073741824 ∧ Hid (o = chs n i) ∧ wr = w) (fun _ vi _ => k - (intOf vi).toNat)
  case atStart => exact ⟨0, 1, rfl, rfl, by omega, by omega, (chs_zero n).symm, rfl⟩
  case round =>
    obtain ⟨i, o, rfl, rfl, hi, ho, HO, hw⟩ := hrel
    have hw := hw.symm
    subst hw
    by_cases hlt : i < k
    · have hib : (i : Int) < (k : Int) := by omega
      obtain ⟨o2, ho2⟩ : ∃ o2, o2 = chs n (i + 1) := ⟨_, rfl⟩
      obtain ⟨P, hP⟩ : ∃ P : Nat, P = (i + 1) * o2 := ⟨_, rfl⟩
      have h2 : o2 ≤ 1073741824 := by
        have h := chs_le n (i + 1)
        have h30 : 2 ^ n ≤ 2 ^ 30 := Nat.pow_le_pow_right (by omega) hn
        rw [← ho2] at h
        omega
      have hPe : (o : Int) * ((n : Int) - (i : Int)) = (P : Int) := by
        have h := chs_step n i
        rw [← ho2, ← HO.out, ← hP] at h
        by_cases e : i ≤ n
        · rw [h, show (n : Int) - (i : Int) = ((n - i : Nat) : Int) by omega, ← Int.natCast_mul, Nat.mul_comm]
        · have h0 : o = 0 := by rw [HO.out]; exact chs_over n i (by omega)
          rw [h, h0, show n - i = 0 by omega]; simp
      have hP2 : P ≤ 1001 * 1073741824 := by rw [hP]; exact Nat.mul_le_mul (by omega) h2
      have hwr : IntKind.i64.wrap ((o : Int) * ((n : Int) - (i : Int))) = (P : Int) := by rw [hPe]; exact wrap_ka (by omega) (by omega)
      have hq : Int.tdiv (P : Int) ((i : Int) + 1) = (o2 : Int) := by
        rw [hP, show ((i : Int) + 1) = ((i + 1 : Nat) : Int) by omega, Int.natCast_mul]
        exact Int.mul_tdiv_cancel_left _ (by omega)
      have hne : ((i : Int) + 1) ≠ 0 := by omega
      have HO2 : Hid (o2 = chs n (i + 1)) := ho2
      clear hP hPe ho2
      go_wp2
      go_roundw
      case rel => exact ⟨i + 1, o2, by first | rfl | simp [hwr, hq], by go_num, by omega, h2, HO2.out, by first | rfl | trivial⟩
      case measure => simp [intOf]; omega
    · have hib : ¬ (i : Int) < (k : Int) := by omega
      have hie : i = k := by omega
      subst hie
      go_wp2
      go_ret
      exact ⟨by rw [← HO.out]; rfl, rfl⟩
end Go.Proofs.Ytnjbnamcedfjaaa
