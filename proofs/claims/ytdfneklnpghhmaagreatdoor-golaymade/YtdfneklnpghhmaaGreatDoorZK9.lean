/- Texts of ours, one behind the other: K9 E7 I37 S19 I38 I39 I40 G2 G3 G4 G5 S20 KA1 KA2 KA3 KA4 KA5. -/
import Derived.Test.YtdfneklnpghhmaaGreatDoorZI22
import Derived.Test.YtdfneklnpghhmaaGreatDoorZI6
import Derived.Test.YtdfneklnpghhmaaGreatDoorZS2
import Derived.Test.YtdfneklnpghhmaaGreatDoorZU2
import Derived.Test.YtdfneklnpghhmaaGreatDoorZW11
import Derived.Test.YtdfneklnpghhmaaGreatDoorZV7
import Derived.Test.YtdfneklnpghhmaaGreatDoorZA1
import Derived.Test.YtdfneklnpghhmaaGreatDoorZR3
import Derived.Test.YtdfneklnpghhmaaGreatDoorZM3
import Derived.Deep.CutBlock
import Derived.Deep.DeepCutAuto
import Derived.Test.YtdfneklnpghhmaaGreatDoorZR9
import Derived.Test.YtdfneklnpghhmaaGreatDoorZO2
/- Codes in hand: Encode, Has; words of a code and of its dual. -/
namespace Go.Proofs.YtdfneklnpghhmaaGreatDoor
open Go.RowKit Go.Sort

end Go.Proofs.YtdfneklnpghhmaaGreatDoor

/- TopDual: the walk of the statement, whatever raw numbers it is given. -/
namespace Go.Proofs.YtdfneklnpghhmaaGreatDoor
open Go.RowKit Go.Sort

end Go.Proofs.YtdfneklnpghhmaaGreatDoor

/- A row less another, wherever they lie (the reference's less). -/
namespace Go.Proofs.YtdfneklnpghhmaaGreatDoor
open Go.RowKit Go.Sort

end Go.Proofs.YtdfneklnpghhmaaGreatDoor

/- Plain mathematics: words with one number more, so that all together are 0. No Go text here. -/
namespace Go.Proofs.YtdfneklnpghhmaaGreatDoor

end Go.Proofs.YtdfneklnpghhmaaGreatDoor

/- Words that are 0 at a place, without it (the reference's Shortened). -/
namespace Go.Proofs.YtdfneklnpghhmaaGreatDoor
open Go.RowKit Go.Sort

end Go.Proofs.YtdfneklnpghhmaaGreatDoor

/- Words with one number more (the reference's Extended). -/
namespace Go.Proofs.YtdfneklnpghhmaaGreatDoor
open Go.RowKit Go.Sort

end Go.Proofs.YtdfneklnpghhmaaGreatDoor

/- Extend (the program's). -/
namespace Go.Proofs.YtdfneklnpghhmaaGreatDoor
open Go.RowKit Go.Sort

end Go.Proofs.YtdfneklnpghhmaaGreatDoor

/- Golay's codes: all multiples of a polynomial, turned (the program's cyclic.Of, of a polynomial that divides x^n - 1). -/
namespace Go.Proofs.YtdfneklnpghhmaaGreatDoor
open Go.RowKit Go.Sort

end Go.Proofs.YtdfneklnpghhmaaGreatDoor

/- Golay's codes: the program's golay.extended. -/
namespace Go.Proofs.YtdfneklnpghhmaaGreatDoor
open Go.RowKit Go.Sort

end Go.Proofs.YtdfneklnpghhmaaGreatDoor

/- Golay's codes: the reference's Golay. -/
namespace Go.Proofs.YtdfneklnpghhmaaGreatDoor
open Go.RowKit Go.Sort

end Go.Proofs.YtdfneklnpghhmaaGreatDoor

/- Golay's two codes: GolayIs' walk. -/
namespace Go.Proofs.YtdfneklnpghhmaaGreatDoor
open Go.RowKit Go.Sort

end Go.Proofs.YtdfneklnpghhmaaGreatDoor

/- Plain mathematics: how many sets there are; Krawtchouk's numbers. No Go text here. -/
namespace Go.Proofs.YtdfneklnpghhmaaGreatDoor

/-- How many sets of k there are of n. -/
def chs : Nat → Nat → Nat
  | _, 0 => 1
  | 0, _ + 1 => 0
  | n + 1, k + 1 => chs n k + chs n (k + 1)
theorem chs_zero (n : Nat) : chs n 0 = 1 := by cases n <;> rfl
theorem chs_over : ∀ n k, n < k → chs n k = 0
  | _, 0, h => by omega
  | 0, _ + 1, _ => rfl
  | n + 1, k + 1, h => by
    show chs n k + chs n (k + 1) = 0
    rw [chs_over n k (by omega), chs_over n (k + 1) (by omega)]
/-- One more in the set. -/
theorem chs_step : ∀ n k, (k + 1) * chs n (k + 1) = (n - k) * chs n k
  | 0, k => by
    rw [show chs 0 (k + 1) = 0 from rfl, Nat.zero_sub]; omega
  | n + 1, 0 => by
    have h := chs_step n 0
    rw [chs_zero] at h ⊢
    show (0 + 1) * (chs n 0 + chs n (0 + 1)) = _
    rw [chs_zero]
    omega
  | n + 1, k + 1 => by
    have h1 := chs_step n k
    have h2 := chs_step n (k + 1)
    show (k + 1 + 1) * (chs n (k + 1) + chs n (k + 1 + 1)) = (n + 1 - (k + 1)) * (chs n k + chs n (k + 1))
    by_cases e : k + 1 ≤ n
    · rw [Nat.mul_add, h2, show n + 1 - (k + 1) = n - k by omega, Nat.mul_add, ← h1, ← Nat.add_mul, ← Nat.add_mul, show k + 1 + 1 + (n - (k + 1)) = n + 1 by omega, show k + 1 + (n - k) = n + 1 by omega]
    · rw [chs_over n (k + 1) (by omega), chs_over n (k + 1 + 1) (by omega), show n + 1 - (k + 1) = 0 by omega]
      omega
theorem chs_pw (b : Nat) : ∀ n k, b ^ k * chs n k ≤ (b + 1) ^ n
  | n, 0 => by
    rw [chs_zero, Nat.pow_zero]
    exact Nat.one_le_pow _ _ (by omega)
  | 0, k + 1 => by rw [show chs 0 (k + 1) = 0 from rfl]; exact Nat.zero_le _
  | n + 1, k + 1 => by
    have h1 := chs_pw b n k
    have h2 := chs_pw b n (k + 1)
    show b ^ (k + 1) * (chs n k + chs n (k + 1)) ≤ _
    have e1 : b ^ (k + 1) * chs n k = b * (b ^ k * chs n k) := by rw [Nat.pow_succ, Nat.mul_comm (b ^ k) b, Nat.mul_assoc]
    have h3 : b * (b ^ k * chs n k) ≤ b * (b + 1) ^ n := Nat.mul_le_mul_left _ h1
    have e2 : (b + 1) ^ (n + 1) = b * (b + 1) ^ n + (b + 1) ^ n := by rw [Nat.pow_succ, Nat.mul_add, Nat.mul_one, Nat.mul_comm ((b + 1) ^ n) b]
    rw [Nat.mul_add, e1, e2]
    omega
theorem chs_le (n k : Nat) : chs n k ≤ 2 ^ n := by
  have h := chs_pw 1 n k
  rw [Nat.one_pow, Nat.one_mul] at h
  exact h

/-- The coefficients of a product of (1 + c z). -/
def kc (c : Nat → Int) : Nat → Nat → Int
  | 0, 0 => 1
  | 0, _ + 1 => 0
  | i + 1, 0 => kc c i 0
  | i + 1, k + 1 => kc c i (k + 1) + c i * kc c i k
theorem kc_zero (c : Nat → Int) : ∀ i, kc c i 0 = 1
  | 0 => rfl
  | i + 1 => kc_zero c i
/-- Of a product of two, the first j terms. -/
def cv (A B : Nat → Int) (k : Nat) : Nat → Int
  | 0 => 0
  | j + 1 => cv A B k j + A j * B (k - j)
theorem cv_congr {A A' B B' : Nat → Int} {k : Nat} : ∀ j, (∀ i, i < j → A i = A' i ∧ B (k - i) = B' (k - i)) → cv A B k j = cv A' B' k j
  | 0, _ => rfl
  | j + 1, h => by
    show cv A B k j + A j * B (k - j) = cv A' B' k j + A' j * B' (k - j)
    rw [cv_congr j (fun i hi => h i (by omega)), (h j (by omega)).1, (h j (by omega)).2]
/-- b^l times how many sets of l there are of m. -/
def bl (b : Int) (m l : Nat) : Int := b ^ l * (chs m l : Nat)
theorem bl_zero (b : Int) (m : Nat) : bl b m 0 = 1 := by unfold bl; rw [chs_zero]; simp
theorem bl_succ (b : Int) (m l : Nat) : bl b (m + 1) (l + 1) = bl b m (l + 1) + b * bl b m l := by
  unfold bl
  rw [show chs (m + 1) (l + 1) = chs m l + chs m (l + 1) from rfl, Int.natCast_add, Int.mul_add, Int.pow_succ]
  have : b ^ l * b * (chs m l : Nat) = b * (b ^ l * (chs m l : Nat)) := by rw [Int.mul_comm (b ^ l) b, Int.mul_assoc]
  rw [this, Int.add_comm]
theorem cv_step (A : Nat → Int) (b : Int) (m k : Nat) : ∀ j, j ≤ k + 1 → cv A (bl b (m + 1)) (k + 1) j = cv A (bl b m) (k + 1) j + b * cv A (bl b m) k j
  | 0, _ => by show (0 : Int) = 0 + b * 0; simp
  | j + 1, h => by
    show cv A (bl b (m + 1)) (k + 1) j + A j * bl b (m + 1) (k + 1 - j) = cv A (bl b m) (k + 1) j + A j * bl b m (k + 1 - j) + b * (cv A (bl b m) k j + A j * bl b m (k - j))
    rw [cv_step A b m k j (by omega), show k + 1 - j = (k - j) + 1 by omega, bl_succ, Int.mul_add, Int.mul_add, ← Int.mul_assoc (A j) b, Int.mul_comm (A j) b, Int.mul_assoc b (A j)]
    omega
/-- The coefficients of (1 - z)^x (1 + b z)^(n - x). -/
def kwc (b : Int) (x : Nat) : Nat → Int := fun i => if i < x then -1 else b
theorem kc_lo (b : Int) (x : Nat) : ∀ i k, i ≤ x → kc (kwc b x) i k = (-1) ^ k * (chs i k : Nat)
  | 0, 0, _ => rfl
  | 0, k + 1, _ => by
    show (0 : Int) = (-1) ^ (k + 1) * ((0 : Nat) : Int)
    simp
  | i + 1, 0, h => by
    rw [kc_zero, chs_zero]; simp
  | i + 1, k + 1, h => by
    show kc (kwc b x) i (k + 1) + kwc b x i * kc (kwc b x) i k = (-1) ^ (k + 1) * ((chs i k + chs i (k + 1) : Nat) : Int)
    rw [kc_lo b x i (k + 1) (by omega), kc_lo b x i k (by omega), show kwc b x i = -1 from if_pos (by omega), Int.natCast_add, Int.mul_add, Int.pow_succ]
    have : (-1 : Int) * ((-1) ^ k * (chs i k : Nat)) = (-1) ^ k * -1 * (chs i k : Nat) := by rw [← Int.mul_assoc, Int.mul_comm (-1 : Int)]
    rw [this]
    omega
theorem kc_hi (b : Int) (x : Nat) : ∀ m k, kc (kwc b x) (x + m) k = cv (kc (kwc b x) x) (bl b m) k (k + 1)
  | 0, k => by
    have h : ∀ j, j ≤ k → cv (kc (kwc b x) x) (bl b 0) k j = 0 := fun j => by
      induction j with
      | zero => intro _; rfl
      | succ j ih =>
        intro hj
        show cv (kc (kwc b x) x) (bl b 0) k j + kc (kwc b x) x j * bl b 0 (k - j) = 0
        rw [ih (by omega), show k - j = (k - j - 1) + 1 by omega]
        have : bl b 0 (k - j - 1 + 1) = 0 := by unfold bl; rw [show chs 0 (k - j - 1 + 1) = 0 from rfl]; simp
        rw [this]; simp
    show kc (kwc b x) x k = cv (kc (kwc b x) x) (bl b 0) k k + kc (kwc b x) x k * bl b 0 (k - k)
    rw [h k (Nat.le_refl _), Nat.sub_self, bl_zero]; simp
  | m + 1, 0 => by
    show kc (kwc b x) (x + m) 0 = cv (kc (kwc b x) x) (bl b (m + 1)) 0 0 + kc (kwc b x) x 0 * bl b (m + 1) (0 - 0)
    rw [kc_zero, kc_zero, bl_zero]
    show (1 : Int) = 0 + 1 * 1
    rfl
  | m + 1, k + 1 => by
    show kc (kwc b x) (x + m) (k + 1) + kwc b x (x + m) * kc (kwc b x) (x + m) k = cv (kc (kwc b x) x) (bl b (m + 1)) (k + 1) (k + 1) + kc (kwc b x) x (k + 1) * bl b (m + 1) (k + 1 - (k + 1))
    rw [kc_hi b x m (k + 1), kc_hi b x m k, show kwc b x (x + m) = b from if_neg (by omega), cv_step _ _ _ _ _ (Nat.le_refl _), Nat.sub_self, bl_zero]
    show cv (kc (kwc b x) x) (bl b m) (k + 1) (k + 1) + kc (kwc b x) x (k + 1) * bl b m (k + 1 - (k + 1)) + b * cv (kc (kwc b x) x) (bl b m) k (k + 1) = _
    rw [Nat.sub_self, bl_zero]
    omega
/-- Krawtchouk's number, as a sum. -/
def krw (q n k x : Nat) : Nat → Int := cv (fun j => (-1) ^ j * (chs x j : Nat)) (bl ((q : Int) - 1) (n - x)) k
theorem krw_is (q n k x : Nat) (hx : x ≤ n) : krw q n k x (k + 1) = kc (kwc ((q : Int) - 1) x) n k := by
  have h := kc_hi ((q : Int) - 1) x (n - x) k
  rw [show x + (n - x) = n by omega] at h
  rw [h]
  exact cv_congr _ (fun i _ => ⟨(kc_lo _ x x i (Nat.le_refl _)).symm, rfl⟩)
end Go.Proofs.YtdfneklnpghhmaaGreatDoor

/- Weights: powers and numbers of sets (the program's power, over). -/
namespace Go.Proofs.YtdfneklnpghhmaaGreatDoor
open Go.RowKit

theorem wrap_ka {a : Int} (h1 : -9223372036854775808 ≤ a) (h2 : a ≤ 9223372036854775807) : IntKind.i64.wrap a = a := by
  rw [IntKind.wrap_i64]
  first | omega | (unfold wrap64; omega)
theorem pow30 {b i : Nat} (hb : 2 ≤ b) (h : b ^ i ≤ 1073741824) : i ≤ 30 := by
  refine Classical.byContradiction fun hn => ?_
  have h1 : 2 ^ i ≤ b ^ i := Nat.pow_le_pow_left hb i
  have h2 : 2 ^ 31 ≤ 2 ^ i := Nat.pow_le_pow_right (by omega) (by omega)
  omega
/-- What power tells. -/
def PwB (b : Nat) (t : Int) (w : World) (e : Ending) (w' : World) : Prop := ∃ v : Nat, e = .returned (.int .i64 (v : Nat)) ∧ w' = w ∧ ((b ^ t.toNat ≤ 1073741824 ∧ v = b ^ t.toNat) ∨ (1073741824 < b ^ t.toNat ∧ 1073741824 < v)) ∧ v ≤ 68719476736
set_option maxHeartbeats 2000000 in
theorem wpow_any (b : Nat) (t : Int) (hb : 2 ≤ b) (hb2 : b ≤ 64) (ht : 0 ≤ t) (ht2 : t ≤ 9223372036854775807) (w : World) :
    Calls Tryz.prog 60 #[.int .i64 (b : Nat), .int .i64 t] w (PwB b t w) := by
  go_enter Tryz.func60, Tryz.ntmps60
  go_wp2
  go_loopw [5, 6] (fun vo vi wr => ∃ i o : Nat, vo = .int .i64 (o : Nat) ∧ vi = .int .i64 (i : Nat) ∧ (i : Int) ≤ t ∧ i ≤ 31 ∧ o ≤ 68719476736 ∧ Hid (o = b ^ i) ∧ wr = w) (fun _ vi _ => 32 - (intOf vi).toNat)
  case atStart => exact ⟨0, 1, rfl, rfl, by omega, by omega, by omega, by show 1 = b ^ 0; simp, rfl⟩
  case round =>
    obtain ⟨i, o, rfl, rfl, hi, hi2, ho, HO, hw⟩ := hrel
    have hw := hw.symm
    subst hw
    by_cases hlt : (i : Int) < t
    · by_cases hf : o ≤ 1073741824
      · have hfb : (o : Int) ≤ 1073741824 := by omega
        obtain ⟨y, hy⟩ : ∃ y, y = o * b := ⟨_, rfl⟩
        have hy2 : y ≤ 1073741824 * 64 := by rw [hy]; exact Nat.mul_le_mul hf hb2
        have hwr : IntKind.i64.wrap ((o : Int) * (b : Int)) = (y : Int) := by
          have he : (o : Int) * (b : Int) = (y : Int) := by rw [hy]; simp
          rw [he]; exact wrap_ka (by omega) (by omega)
        have hi30 : i ≤ 30 := pow30 hb (by rw [← HO.out]; exact hf)
        have HY : Hid (y = b ^ (i + 1)) := by show y = _; rw [hy, HO.out, Nat.pow_succ]
        clear hy
        go_wp2
        go_roundw
        case rel => exact ⟨i + 1, y, by first | rfl | simp [hwr], by go_num, by omega, by omega, by omega, HY.out, by first | rfl | trivial⟩
        case measure => simp [intOf]; omega
      · have hfb : ¬ (o : Int) ≤ 1073741824 := by omega
        have HE : Hid (1073741824 < b ^ t.toNat) := by
          show 1073741824 < b ^ t.toNat
          have : b ^ i ≤ b ^ t.toNat := Nat.pow_le_pow_right (by omega) (by omega)
          rw [← HO.out] at this
          omega
        go_wp2
        go_ret
        exact ⟨o, rfl, rfl, Or.inr ⟨HE.out, by omega⟩, ho⟩
    · have hti : t = (i : Int) := by omega
      subst hti
      have HE : Hid ((b ^ (i : Int).toNat ≤ 1073741824 ∧ o = b ^ (i : Int).toNat) ∨ (1073741824 < b ^ (i : Int).toNat ∧ 1073741824 < o)) := by
        show _ ∨ _
        rw [Int.toNat_natCast, ← HO.out]
        by_cases hf : o ≤ 1073741824
        · exact Or.inl ⟨hf, rfl⟩
        · exact Or.inr ⟨by omega, by omega⟩
      go_wp2
      go_ret
      exact ⟨o, rfl, rfl, HE.out, ho⟩
/-- 1 so many times. -/
theorem wpow_one (t : Nat) (ht : t ≤ 1000) (w : World) :
    Calls Tryz.prog 60 #[.int .i64 1, .int .i64 (t : Nat)] w fun e w' => e = .returned (.int .i64 1) ∧ w' = w := by
  go_enter Tryz.func60, Tryz.ntmps60
  go_wp2
  go_loopw [5, 6] (fun vo vi wr => ∃ i : Nat, vo = .int .i64 1 ∧ vi = .int .i64 (i : Nat) ∧ i ≤ t ∧ wr = w) (fun _ vi _ => t - (intOf vi).toNat)
  case atStart => exact ⟨0, rfl, rfl, by omega, rfl⟩
  case round =>
    obtain ⟨i, rfl, rfl, hi, hw⟩ := hrel
    have hw := hw.symm
    subst hw
    by_cases hlt : i < t
    · have hib : (i : Int) < (t : Int) := by omega
      go_wp2
      go_roundw
      case rel => exact ⟨i + 1, by first | rfl | simp, by go_num, by omega, by first | rfl | trivial⟩
      case measure => simp [intOf]; omega
    · have hib : ¬ (i : Int) < (t : Int) := by omega
      go_wp2
      go_ret
      exact ⟨rfl, rfl⟩
/-- A power that is no more than 2^30, told as it is. -/
theorem wpow_is (b t : Nat) (hb : 1 ≤ b) (hb2 : b ≤ 64) (ht : t ≤ 1000) (hp : b ^ t ≤ 1073741824) (w : World) :
    Calls Tryz.prog 60 #[.int .i64 (b : Nat), .int .i64 (t : Nat)] w fun e w' => e = .returned (.int .i64 (b ^ t : Nat)) ∧ w' = w := by
  by_cases h1 : b = 1
  · subst h1
    rw [Nat.one_pow]
    exact wpow_one t ht w
  · refine (wpow_any b t (by omega) hb2 (by omega) (by omega) w).mono ?_
    rintro e w' ⟨v, rfl, rfl, h, _⟩
    rw [Int.toNat_natCast] at h
    rcases h with h | h
    · exact ⟨by rw [h.2], rfl⟩
    · omega

set_option maxHeartbeats 2000000 in
theorem wover_any (n k : Nat) (hn : n ≤ 30) (hk : k ≤ 1000) (w : World) :
    Calls Tryz.prog 105 #[.int .i64 (n : Nat), .int .i64 (k : Nat)] w fun e w' => e = .returned (.int .i64 (chs n k : Nat)) ∧ w' = w := by
  go_enter Tryz.func105, Tryz.ntmps105
  go_wp2
  go_loopw [5, 8] (fun vo vi wr => ∃ i o : Nat, vo = .int .i64 (o : Nat) ∧ vi = .int .i64 (i : Nat) ∧ i ≤ k ∧ o ≤ 1073741824 ∧ Hid (o = chs n i) ∧ wr = w) (fun _ vi _ => k - (intOf vi).toNat)
  case atStart => exact ⟨0, 1, rfl, rfl, by omega, by omega, (chs_zero n).symm, rfl⟩
  case round =>
    obtain ⟨i, o, rfl, rfl, hi, ho, HO, hw⟩ := hrel
    have hw := hw.symm
    subst hw
    by_cases hlt : i < k
    · have hib : (i : Int) < (k : Int) := by omega
      obtain ⟨o2, ho2⟩ : ∃ o2, o2 = chs n (i + 1) := ⟨_, rfl⟩
      obtain ⟨P, hP⟩ : ∃ P : Nat, P = (i + 1) * o2 := ⟨_, rfl⟩
      have h2 : o2 ≤ 1073741824 := by
        have h := chs_le n (i + 1)
        have h30 : 2 ^ n ≤ 2 ^ 30 := Nat.pow_le_pow_right (by omega) hn
        rw [← ho2] at h
        omega
      have hPe : (o : Int) * ((n : Int) - (i : Int)) = (P : Int) := by
        have h := chs_step n i
        rw [← ho2, ← HO.out, ← hP] at h
        by_cases e : i ≤ n
        · rw [h, show (n : Int) - (i : Int) = ((n - i : Nat) : Int) by omega, ← Int.natCast_mul, Nat.mul_comm]
        · have h0 : o = 0 := by rw [HO.out]; exact chs_over n i (by omega)
          rw [h, h0, show n - i = 0 by omega]; simp
      have hP2 : P ≤ 1001 * 1073741824 := by rw [hP]; exact Nat.mul_le_mul (by omega) h2
      have hwr : IntKind.i64.wrap ((o : Int) * ((n : Int) - (i : Int))) = (P : Int) := by rw [hPe]; exact wrap_ka (by omega) (by omega)
      have hq : Int.tdiv (P : Int) ((i : Int) + 1) = (o2 : Int) := by
        rw [hP, show ((i : Int) + 1) = ((i + 1 : Nat) : Int) by omega, Int.natCast_mul]
        exact Int.mul_tdiv_cancel_left _ (by omega)
      have hne : ((i : Int) + 1) ≠ 0 := by omega
      have HO2 : Hid (o2 = chs n (i + 1)) := ho2
      clear hP hPe ho2
      go_wp2
      go_roundw
      case rel => exact ⟨i + 1, o2, by first | rfl | simp [hwr, hq], by go_num, by omega, h2, HO2.out, by first | rfl | trivial⟩
      case measure => simp [intOf]; omega
    · have hib : ¬ (i : Int) < (k : Int) := by omega
      have hie : i = k := by omega
      subst hie
      go_wp2
      go_ret
      exact ⟨by rw [← HO.out]; rfl, rfl⟩
end Go.Proofs.YtdfneklnpghhmaaGreatDoor

/- Weights: Krawtchouk's numbers (the program's krawtchouk). -/
namespace Go.Proofs.YtdfneklnpghhmaaGreatDoor
open Go.RowKit

theorem kterm_le {q n x j l : Nat} (hq : 2 ≤ q) (hx : x ≤ n) (hp : q ^ n ≤ 1073741824) : chs x j * ((q - 1) ^ l * chs (n - x) l) ≤ 1073741824 := by
  have h1 : chs x j ≤ q ^ x := Nat.le_trans (chs_le x j) (Nat.pow_le_pow_left hq x)
  have h2 := chs_pw (q - 1) (n - x) l
  rw [show q - 1 + 1 = q by omega] at h2
  have h3 : q ^ x * q ^ (n - x) = q ^ n := by rw [← Nat.pow_add, show x + (n - x) = n by omega]
  have h4 := Nat.mul_le_mul h1 h2
  omega
theorem sign_is (j : Nat) : ((-1 : Int) ^ j = 1 ∨ (-1 : Int) ^ j = -1) := by
  induction j with
  | zero => exact Or.inl rfl
  | succ j ih => rw [Int.pow_succ]; rcases ih with h | h <;> rw [h] <;> simp

set_option maxHeartbeats 4000000 in
set_option maxRecDepth 100000 in
theorem kraw_any (q n k x : Nat) (hq : 2 ≤ q) (hq2 : q ≤ 64) (hp : q ^ n ≤ 1073741824) (hk : k ≤ n) (hx : x ≤ n) (w : World) :
    Calls Tryz.prog 85 #[.int .i64 (q : Nat), .int .i64 (n : Nat), .int .i64 (k : Nat), .int .i64 (x : Nat)] w fun e w' => e = .returned (.int .i64 (krw q n k x (k + 1))) ∧ w' = w := by
  have hn30 : n ≤ 30 := pow30 hq hp
  go_enter Tryz.func85, Tryz.ntmps85
  go_wp2
  go_loopw [9, 10, 14] (fun vs vg vj wr => ∃ (j : Nat) (s g : Int), vs = .int .i64 s ∧ vg = .int .i64 g ∧ vj = .int .i64 (j : Nat) ∧ j ≤ k + 1 ∧ Hid (s = krw q n k x j ∧ g = (-1) ^ j ∧ s.natAbs ≤ j * 1073741824) ∧ wr = w) (fun _ _ vj _ => k + 1 - (intOf vj).toNat)
  case atStart => exact ⟨0, 0, 1, rfl, rfl, rfl, by omega, ⟨rfl, rfl, by simp⟩, rfl⟩
  case round =>
    obtain ⟨j, s, g, rfl, rfl, rfl, hj, HS, hw⟩ := hrel
    have hw := hw.symm
    subst hw
    have hsb := HS.out.2.2
    have hs1 : -34359738368 ≤ s ∧ s ≤ 34359738368 := by
      have : j * 1073741824 ≤ 32 * 1073741824 := Nat.mul_le_mul_right _ (by omega)
      omega
    have hg1 : g = 1 ∨ g = -1 := by rw [HS.out.2.1]; exact sign_is j
    have hgb : -1 ≤ g ∧ g ≤ 1 := by omega
    by_cases hlt : j < k + 1
    · have hib : (j : Int) < (k : Int) + 1 := by omega
      obtain ⟨l, hl⟩ : ∃ l, l = k - j := ⟨_, rfl⟩
      obtain ⟨pw, hpw⟩ : ∃ pw, pw = (q - 1) ^ l := ⟨_, rfl⟩
      obtain ⟨o1, ho1⟩ : ∃ o1, o1 = chs x j := ⟨_, rfl⟩
      obtain ⟨o2, ho2⟩ : ∃ o2, o2 = chs (n - x) l := ⟨_, rfl⟩
      have hpwb : pw ≤ 1073741824 := by
        rw [hpw]
        have h1 : (q - 1) ^ l ≤ q ^ l := Nat.pow_le_pow_left (by omega) l
        have h2 : q ^ l ≤ q ^ n := Nat.pow_le_pow_right (by omega) (by omega)
        omega
      have ho1b : o1 ≤ 1073741824 := by
        rw [ho1]
        have h1 := chs_le x j
        have h2 : 2 ^ x ≤ 2 ^ 30 := Nat.pow_le_pow_right (by omega) (by omega)
        omega
      have hterm : o1 * (pw * o2) ≤ 1073741824 := by rw [ho1, hpw, ho2]; exact kterm_le hq hx hp
      have HPw : Hid (Calls Tryz.prog 60 #[.int .i64 ((q : Int) - 1), .int .i64 ((k : Int) - (j : Int))] w fun e w' => e = .returned (.int .i64 (pw : Nat)) ∧ w' = w) := by
        show Calls _ _ _ _ _
        rw [show (q : Int) - 1 = ((q - 1 : Nat) : Int) by omega, show (k : Int) - (j : Int) = ((l : Nat) : Int) by omega, hpw]
        exact wpow_is (q - 1) l (by omega) (by omega) (by omega) (by rw [← hpw]; exact hpwb) w
      have HO1 : Hid (Calls Tryz.prog 105 #[.int .i64 (x : Nat), .int .i64 (j : Nat)] w fun e w' => e = .returned (.int .i64 (o1 : Nat)) ∧ w' = w) := by
        show Calls _ _ _ _ _
        rw [ho1]; exact wover_any x j (by omega) (by omega) w
      have HO2 : Hid (Calls Tryz.prog 105 #[.int .i64 ((n : Int) - (x : Int)), .int .i64 ((k : Int) - (j : Int))] w fun e w' => e = .returned (.int .i64 (o2 : Nat)) ∧ w' = w) := by
        show Calls _ _ _ _ _
        rw [show (n : Int) - (x : Int) = ((n - x : Nat) : Int) by omega, show (k : Int) - (j : Int) = ((l : Nat) : Int) by omega, ho2]
        exact wover_any (n - x) l (by omega) (by omega) w
      obtain ⟨A1, hA1⟩ : ∃ A1 : Int, A1 = g * (pw : Int) := ⟨_, rfl⟩
      obtain ⟨A2, hA2⟩ : ∃ A2 : Int, A2 = A1 * (o1 : Int) := ⟨_, rfl⟩
      obtain ⟨A3, hA3⟩ : ∃ A3 : Int, A3 = A2 * (o2 : Int) := ⟨_, rfl⟩
      have a1 : A1.natAbs = pw := by rw [hA1, Int.natAbs_mul]; rcases hg1 with h | h <;> rw [h] <;> simp
      have a2 : A2.natAbs = pw * o1 := by rw [hA2, Int.natAbs_mul, a1]; simp
      have a3 : A3.natAbs = o1 * (pw * o2) := by
        rw [hA3, Int.natAbs_mul, a2]
        simp only [Int.natAbs_natCast]
        rw [Nat.mul_comm pw o1, Nat.mul_assoc]
      have hb2 : pw * o1 ≤ 1073741824 * 1073741824 := Nat.mul_le_mul hpwb ho1b
      have hw1 : IntKind.i64.wrap (g * (pw : Int)) = A1 := by rw [← hA1]; exact wrap_ka (by omega) (by omega)
      have hw2 : IntKind.i64.wrap (A1 * (o1 : Int)) = A2 := by rw [← hA2]; exact wrap_ka (by omega) (by omega)
      have hw3 : IntKind.i64.wrap (A2 * (o2 : Int)) = A3 := by rw [← hA3]; exact wrap_ka (by omega) (by omega)
      have hA3b : -1073741824 ≤ A3 ∧ A3 ≤ 1073741824 := by omega
      have HR : Hid (s + A3 = krw q n k x (j + 1) ∧ -g = (-1) ^ (j + 1) ∧ (s + A3).natAbs ≤ (j + 1) * 1073741824) := by
        refine ⟨?_, ?_, ?_⟩
        · show s + A3 = krw q n k x j + (-1) ^ j * (chs x j : Nat) * bl ((q : Int) - 1) (n - x) (k - j)
          rw [HS.out.1, hA3, hA2, hA1, HS.out.2.1, ho1, ho2, hpw, ← hl]
          unfold bl
          rw [show ((q : Int) - 1) = ((q - 1 : Nat) : Int) by omega, ← Int.natCast_pow]
          have e : ∀ a b c d : Int, a * b * c * d = a * c * (b * d) := fun a b c d => by
            rw [Int.mul_assoc a b c, Int.mul_comm b c, ← Int.mul_assoc a c b, Int.mul_assoc (a * c) b d]
          rw [e]
        · rw [HS.out.2.1, Int.pow_succ]; simp
        · have := Int.natAbs_add_le s A3
          rw [Nat.add_mul, Nat.one_mul]
          omega
      clear hA1 hA2 hA3 a1 a2 a3 hb2 hterm hpw ho1 ho2 hl hg1 hsb HS
      go_wp2_with fail
      refine HPw.out.mono ?_
      rintro e w' ⟨rfl, hw⟩
      have hw := hw.symm
      subst hw
      go_wp2_with fail
      refine HO1.out.mono ?_
      rintro e w' ⟨rfl, hw⟩
      have hw := hw.symm
      subst hw
      go_wp2_with fail
      refine HO2.out.mono ?_
      rintro e w' ⟨rfl, hw⟩
      have hw := hw.symm
      subst hw
      go_wp2
      go_roundw
      case rel => exact ⟨j + 1, s + A3, -g, by first | rfl | simp [hw3], by first | rfl | simp, by go_num, by omega, HR.out, by first | rfl | trivial⟩
      case measure => simp [intOf]; omega
    · have hib : ¬ (j : Int) < (k : Int) + 1 := by omega
      have hje : j = k + 1 := by omega
      subst hje
      go_wp2
      go_ret
      exact ⟨by rw [← HS.out.1]; rfl, rfl⟩
end Go.Proofs.YtdfneklnpghhmaaGreatDoor

/- Weights: Krawtchouk's numbers (the reference's Kraw). -/
namespace Go.Proofs.YtdfneklnpghhmaaGreatDoor
open Go.RowKit

/-- Whole numbers, below 0 too, in a row of the call's own. -/
def RowZ (g N : Nat) (z : Nat → Int) (w : World) : Prop := ∃ cap f, RowF g cap 3 f w ∧ N ≤ cap ∧ ∀ k, k < N → f k = .int .i64 (z k)
theorem RowZ.of {g N : Nat} {c : Nat → Nat} {w : World} (h : Row g N c w) : RowZ g N (fun k => ((c k : Nat) : Int)) w := by
  obtain ⟨cap, f, h1, h2, h3⟩ := h
  exact ⟨cap, f, h1, h2, h3⟩
theorem RowZ.cell {g N : Nat} {z : Nat → Int} {w : World} (h : RowZ g N z w) (k : Nat) (hk : k < N) : w.cell? ⟨g, k, none⟩ = some (.int .i64 (z k)) := by
  obtain ⟨cap, f, h1, h2, h3⟩ := h
  rw [h1.cell k (by omega), h3 k hk]
theorem RowZ.free {g N : Nat} {z : Nat → Int} {w : World} (h : RowZ g N z w) (k : Nat) : w.frozen? ⟨g, k, none⟩ = false := by
  obtain ⟨cap, f, h1, h2, h3⟩ := h
  exact h1.free k
theorem RowZ.store {g N : Nat} {z y : Nat → Int} {w : World} (h : RowZ g N z w) (k : Nat) (v : Int) (hd : ∀ j, j < N → y j = if j = k then v else z j) : RowZ g N y (w.setCell ⟨g, k, none⟩ (.int .i64 v)) := by
  obtain ⟨cap, f, h1, h2, h3⟩ := h
  refine ⟨cap, _, h1.store k _, h2, fun j hj => ?_⟩
  unfold upd
  rw [hd j hj]
  by_cases e : j = k
  · rw [if_pos e, if_pos e]
  · rw [if_neg e, if_neg e, h3 j hj]
theorem RowZ.congr {g N : Nat} {z y : Nat → Int} {w : World} (h : RowZ g N z w) (e : ∀ k, k < N → z k = y k) : RowZ g N y w := by
  obtain ⟨cap, f, h1, h2, h3⟩ := h
  exact ⟨cap, f, h1, h2, fun k hk => by rw [h3 k hk, e k hk]⟩
theorem RowZ.below {g N B : Nat} {z : Nat → Int} {w w' : World} (h : RowZ g N z w) (hb : Below B w w') (hB : g < B) : RowZ g N z w' := by
  obtain ⟨cap, f, h1, h2, h3⟩ := h
  exact ⟨cap, f, h1.below hb hB, h2, h3⟩
/-- What a step of Kraw reads. -/
def kwS (G J t : Nat) (a b : Int) (wx : World) : Prop := wx.cell? ⟨G, J, none⟩ = some (.int .i64 a) ∧ wx.cell? ⟨G, t, none⟩ = some (.int .i64 b)

end Go.Proofs.YtdfneklnpghhmaaGreatDoor

/- Weights: what is said of a size and a length, on both sides (Check, CountMay). -/
namespace Go.Proofs.YtdfneklnpghhmaaGreatDoor
open Go.RowKit

/-- What Power of the reference tells. -/
def PwR (b : Nat) (t : Int) (w : World) (e : Ending) (w' : World) : Prop := ∃ v : Int, e = .returned (.int .i64 v) ∧ w' = w ∧ ((b ^ t.toNat ≤ 1073741824 ∧ v = (b ^ t.toNat : Nat)) ∨ (1073741824 < b ^ t.toNat ∧ v = -1))
set_option maxHeartbeats 2000000 in
theorem rpower_any (b : Nat) (t : Int) (hb : 2 ≤ b) (hb2 : b ≤ 64) (ht : 0 ≤ t) (ht2 : t ≤ 9223372036854775807) (w : World) :
    Calls Tryz.prog 15 #[.int .i64 (b : Nat), .int .i64 t] w (PwR b t w) := by
  go_enter Tryz.func15, Tryz.ntmps15
  go_wp2
  go_loopw [5, 6] (fun vo vi wr => ∃ i o : Nat, vo = .int .i64 (o : Nat) ∧ vi = .int .i64 (i : Nat) ∧ (i : Int) ≤ t ∧ i ≤ 30 ∧ o ≤ 1073741824 ∧ Hid (o = b ^ i) ∧ wr = w) (fun _ vi _ => 31 - (intOf vi).toNat)
  case atStart => exact ⟨0, 1, rfl, rfl, by omega, by omega, by omega, by show 1 = b ^ 0; simp, rfl⟩
  case round =>
    obtain ⟨i, o, rfl, rfl, hi, hi2, ho, HO, hw⟩ := hrel
    have hw := hw.symm
    subst hw
    by_cases hlt : (i : Int) < t
    · obtain ⟨y, hy⟩ : ∃ y, y = o * b := ⟨_, rfl⟩
      have hy2 : y ≤ 1073741824 * 64 := by rw [hy]; exact Nat.mul_le_mul ho hb2
      have hwr : IntKind.i64.wrap ((o : Int) * (b : Int)) = (y : Int) := by
        have he : (o : Int) * (b : Int) = (y : Int) := by rw [hy]; simp
        rw [he]; exact wrap_ka (by omega) (by omega)
      have HY : Hid (y = b ^ (i + 1)) := by show y = _; rw [hy, HO.out, Nat.pow_succ]
      clear hy
      by_cases hf : y ≤ 1073741824
      · have hfb : ¬ (y : Int) > 1073741824 := by omega
        have hfb2 : ¬ (1073741824 : Int) < (y : Int) := by omega
        have hi30 : i + 1 ≤ 30 := pow30 hb (by rw [← HY.out]; exact hf)
        go_wp2
        go_roundw
        case rel => exact ⟨i + 1, y, by first | rfl | simp [hwr], by go_num, by omega, hi30, hf, HY.out, by first | rfl | trivial⟩
        case measure => simp [intOf]; omega
      · have hfb : (y : Int) > 1073741824 := by omega
        have hfb2 : (1073741824 : Int) < (y : Int) := by omega
        have HE : Hid (1073741824 < b ^ t.toNat) := by
          show 1073741824 < b ^ t.toNat
          have : b ^ (i + 1) ≤ b ^ t.toNat := Nat.pow_le_pow_right (by omega) (by omega)
          rw [← HY.out] at this
          omega
        go_wp2
        go_ret
        exact ⟨-1, rfl, rfl, Or.inr ⟨HE.out, rfl⟩⟩
    · have hti : t = (i : Int) := by omega
      subst hti
      have HE : Hid (b ^ (i : Int).toNat ≤ 1073741824 ∧ ((o : Nat) : Int) = (b ^ (i : Int).toNat : Nat)) := by
        show _ ∧ _
        rw [Int.toNat_natCast, ← HO.out]
        exact ⟨ho, rfl⟩
      go_wp2
      go_ret
      exact ⟨_, rfl, rfl, Or.inl HE.out⟩
/-- What is said of a length over a field. -/
def FD.wck (D : FD) (n : Int) : Int := if n < 1 then 4 else if D.q ^ n.toNat ≤ 1073741824 then 0 else 4
theorem wck_ok {D : FD} (F : Fld D) {n : Int} (h : D.wck n = 0) : ∃ m : Nat, n = (m : Int) ∧ 1 ≤ m ∧ m ≤ 30 ∧ D.q ^ m ≤ 1073741824 := by
  unfold FD.wck at h
  by_cases h1 : n < 1
  · rw [if_pos h1] at h; cases h
  · rw [if_neg h1] at h
    by_cases h2 : D.q ^ n.toNat ≤ 1073741824
    · exact ⟨n.toNat, by omega, by omega, pow30 F.q2 h2, h2⟩
    · rw [if_neg h2] at h; cases h

set_option maxHeartbeats 2000000 in
set_option maxRecDepth 100000 in
theorem wcheck_any {D : FD} (hD : D ∈ fieldsL) (n : Int) (hn : n ≤ 9223372036854775807) (w : World) :
    Calls Tryz.prog 35 #[.int .i64 D.q, .int .i64 n] w fun e w' => e = .returned (.int .i64 (D.wck n)) ∧ Below w.heap.size w w' := by
  have HD : Hid (D ∈ fieldsL) := hD
  have h2 := (fld hD).q2
  have h64 := (fld hD).q64
  clear hD
  go_enter Tryz.func35, Tryz.ntmps35
  go_wp2_with fail
  refine (new_any HD.out w).mono ?_
  rintro e w1 ⟨F, T, g, rfl, _, _, _, hb1⟩
  have H1 : Hid (Below w.heap.size w w1) := hb1
  clear hb1
  by_cases h1 : n < 1
  · have HE : Hid (D.wck n = 4) := by show D.wck n = 4; unfold FD.wck; rw [if_pos h1]
    go_wp2
    go_ret
    exact ⟨by rw [HE.out]; rfl, H1.out⟩
  · have HP : Hid (Calls Tryz.prog 60 #[.int .i64 (D.q : Nat), .int .i64 n] w1 (PwB D.q n w1)) := wpow_any D.q n h2 h64 (by omega) hn w1
    go_wp2_with fail
    refine HP.out.mono ?_
    rintro e w' ⟨v, rfl, hw, hv, hv2⟩
    have hw := hw.symm
    subst hw
    rcases hv with ⟨hp, hv⟩ | ⟨hp, hv⟩
    · have hvb : ¬ (1073741824 : Int) < (v : Int) := by omega
      have hvb2 : ¬ (v : Int) > 1073741824 := by omega
      have HE : Hid (D.wck n = 0) := by show D.wck n = 0; unfold FD.wck; rw [if_neg (by omega), if_pos hp]
      clear hp hv
      go_wp2
      go_ret
      exact ⟨by rw [HE.out]; rfl, H1.out⟩
    · have hvb : (1073741824 : Int) < (v : Int) := by omega
      have hvb2 : (v : Int) > 1073741824 := by omega
      have HE : Hid (D.wck n = 4) := by show D.wck n = 4; unfold FD.wck; rw [if_neg (by omega), if_neg (by omega)]
      clear hp hv
      go_wp2
      go_ret
      exact ⟨by rw [HE.out]; rfl, H1.out⟩
end Go.Proofs.YtdfneklnpghhmaaGreatDoor

/- Weights: sums and looks by closures (the program's times, found, outside; Shows' closures). -/
namespace Go.Proofs.YtdfneklnpghhmaaGreatDoor
open Go.RowKit Go.Sort

/-- The sum of the first products. -/
def vsm (f K : Nat → Int) : Nat → Int
  | 0 => 0
  | r + 1 => vsm f K r + f r * K r
end Go.Proofs.YtdfneklnpghhmaaGreatDoor
