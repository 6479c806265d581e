/- Texts of ours, one behind the other: KA1 KA2 KA3 KA4 KA5 KA6 KA7 KA8 KA9 KA10 KA11 KB1 S21 KB2 S22 KB3 KB5 KB6 KB7 S23 S24 S25. -/
import Derived.Test.YtafebmhbfmdjlabZG3
import Derived.Test.YtafebmhbfmdjlabZD1
import Derived.Test.YtafebmhbfmdjlabZM3
import Derived.Test.YtafebmhbfmdjlabZN4
import Derived.Test.YtafebmhbfmdjlabZY4
import Derived.Deep.CutBlock
import Derived.Deep.DeepCutAuto
import Derived.Test.YtafebmhbfmdjlabZR5
import Derived.Laws.EntriesVeiled
import Derived.Test.YtafebmhbfmdjlabZL1
import Derived.Test.YtafebmhbfmdjlabZV7
import Derived.Test.YtafebmhbfmdjlabZU9
import Derived.Test.YtafebmhbfmdjlabZI31
import Derived.Test.YtafebmhbfmdjlabZX18
/- Weights: powers and numbers of sets (the program's power, over). -/
namespace Go.Proofs.Ytafebmhbfmdjlab
open Go.RowKit

theorem wrap_ka {a : Int} (h1 : -9223372036854775808 ≤ a) (h2 : a ≤ 9223372036854775807) : IntKind.i64.wrap a = a := by
  rw [IntKind.wrap_i64]
  first | omega | (unfold wrap64; omega)
theorem pow30 {b i : Nat} (hb : 2 ≤ b) (h : b ^ i ≤ 1073741824) : i ≤ 30 := by
  refine Classical.byContradiction fun hn => ?_
  have h1 : 2 ^ i ≤ b ^ i := Nat.pow_le_pow_left hb i
  have h2 : 2 ^ 31 ≤ 2 ^ i := Nat.pow_le_pow_right (by omega) (by omega)
  omega
/-- What power tells. -/
def PwB (b : Nat) (t : Int) (w : World) (e : Ending) (w' : World) : Prop := ∃ v : Nat, e = .returned (.int .i64 (v : Nat)) ∧ w' = w ∧ ((b ^ t.toNat ≤ 1073741824 ∧ v = b ^ t.toNat) ∨ (1073741824 < b ^ t.toNat ∧ 1073741824 < v)) ∧ v ≤ 68719476736
set_option maxHeartbeats 2000000 in
theorem wpow_any (b : Nat) (t : Int) (hb : 2 ≤ b) (hb2 : b ≤ 64) (ht : 0 ≤ t) (ht2 : t ≤ 9223372036854775807) (w : World) :
    Calls Try.prog 42 #[.int .i64 (b : Nat), .int .i64 t] w (PwB b t w) := by
  go_enter Try.func42, Try.ntmps42
  go_wp2
  go_loopw [5, 6] (fun vo vi wr => ∃ i o : Nat, vo = .int .i64 (o : Nat) ∧ vi = .int .i64 (i : Nat) ∧ (i : Int) ≤ t ∧ i ≤ 31 ∧ o ≤ 68719476736 ∧ Hid (o = b ^ i) ∧ wr = w) (fun _ vi _ => 32 - (intOf vi).toNat)
  case atStart => exact ⟨0, 1, rfl, rfl, by omega, by omega, by omega, by show 1 = b ^ 0; simp, rfl⟩
  case round =>
    obtain ⟨i, o, rfl, rfl, hi, hi2, ho, HO, hw⟩ := hrel
    have hw := hw.symm
    subst hw
    by_cases hlt : (i : Int) < t
    · by_cases hf : o ≤ 1073741824
      · have hfb : (o : Int) ≤ 1073741824 := by omega
        obtain ⟨y, hy⟩ : ∃ y, y = o * b := ⟨_, rfl⟩
        have hy2 : y ≤ 1073741824 * 64 := by rw [hy]; exact Nat.mul_le_mul hf hb2
        have hwr : IntKind.i64.wrap ((o : Int) * (b : Int)) = (y : Int) := by
          have he : (o : Int) * (b : Int) = (y : Int) := by rw [hy]; simp
          rw [he]; exact wrap_ka (by omega) (by omega)
        have hi30 : i ≤ 30 := pow30 hb (by rw [← HO.out]; exact hf)
        have HY : Hid (y = b ^ (i + 1)) := by show y = _; rw [hy, HO.out, Nat.pow_succ]
        clear hy
        go_wp2
        go_roundw
        case rel => exact ⟨i + 1, y, by first | rfl | simp [hwr], by go_num, by omega, by omega, by omega, HY.out, by first | rfl | trivial⟩
        case measure => simp [intOf]; omega
      · have hfb : ¬ (o : Int) ≤ 1073741824 := by omega
        have HE : Hid (1073741824 < b ^ t.toNat) := by
          show 1073741824 < b ^ t.toNat
          have : b ^ i ≤ b ^ t.toNat := Nat.pow_le_pow_right (by omega) (by omega)
          rw [← HO.out] at this
          omega
        go_wp2
        go_ret
        exact ⟨o, rfl, rfl, Or.inr ⟨HE.out, by omega⟩, ho⟩
    · have hti : t = (i : Int) := by omega
      subst hti
      have HE : Hid ((b ^ (i : Int).toNat ≤ 1073741824 ∧ o = b ^ (i : Int).toNat) ∨ (1073741824 < b ^ (i : Int).toNat ∧ 1073741824 < o)) := by
        show _ ∨ _
        rw [Int.toNat_natCast, ← HO.out]
        by_cases hf : o ≤ 1073741824
        · exact Or.inl ⟨hf, rfl⟩
        · exact Or.inr ⟨by omega, by omega⟩
      go_wp2
      go_ret
      exact ⟨o, rfl, rfl, HE.out, ho⟩
/-- 1 so many times. -/
theorem wpow_one (t : Nat) (ht : t ≤ 1000) (w : World) :
    Calls Try.prog 42 #[.int .i64 1, .int .i64 (t : Nat)] w fun e w' => e = .returned (.int .i64 1) ∧ w' = w := by
  go_enter Try.func42, Try.ntmps42
  go_wp2
  go_loopw [5, 6] (fun vo vi wr => ∃ i : Nat, vo = .int .i64 1 ∧ vi = .int .i64 (i : Nat) ∧ i ≤ t ∧ wr = w) (fun _ vi _ => t - (intOf vi).toNat)
  case atStart => exact ⟨0, rfl, rfl, by omega, rfl⟩
  case round =>
    obtain ⟨i, rfl, rfl, hi, hw⟩ := hrel
    have hw := hw.symm
    subst hw
    by_cases hlt : i < t
    · have hib : (i : Int) < (t : Int) := by omega
      go_wp2
      go_roundw
      case rel => exact ⟨i + 1, by first | rfl | simp, by go_num, by omega, by first | rfl | trivial⟩
      case measure => simp [intOf]; omega
    · have hib : ¬ (i : Int) < (t : Int) := by omega
      go_wp2
      go_ret
      exact ⟨rfl, rfl⟩
/-- A power that is no more than 2^30, told as it is. -/
theorem wpow_is (b t : Nat) (hb : 1 ≤ b) (hb2 : b ≤ 64) (ht : t ≤ 1000) (hp : b ^ t ≤ 1073741824) (w : World) :
    Calls Try.prog 42 #[.int .i64 (b : Nat), .int .i64 (t : Nat)] w fun e w' => e = .returned (.int .i64 (b ^ t : Nat)) ∧ w' = w := by
  by_cases h1 : b = 1
  · subst h1
    rw [Nat.one_pow]
    exact wpow_one t ht w
  · refine (wpow_any b t (by omega) hb2 (by omega) (by omega) w).mono ?_
    rintro e w' ⟨v, rfl, rfl, h, _⟩
    rw [Int.toNat_natCast] at h
    rcases h with h | h
    · exact ⟨by rw [h.2], rfl⟩
    · omega

set_option maxHeartbeats 2000000 in
theorem wover_any (n k : Nat) (hn : n ≤ 30) (hk : k ≤ 1000) (w : World) :
    Calls Try.prog 81 #[.int .i64 (n : Nat), .int .i64 (k : Nat)] w fun e w' => e = .returned (.int .i64 (chs n k : Nat)) ∧ w' = w := by
  go_enter Try.func81, Try.ntmps81
  go_wp2
  go_loopw [5, 8] (fun vo vi wr => ∃ i o : Nat, vo = .int .i64 (o : Nat) ∧ vi = .int .i64 (i : Nat) ∧ i ≤ k ∧ o ≤ 1073741824 ∧ Hid (o = chs n i) ∧ wr = w) (fun _ vi _ => k - (intOf vi).toNat)
  case atStart => exact ⟨0, 1, rfl, rfl, by omega, by omega, (chs_zero n).symm, rfl⟩
  case round =>
    obtain ⟨i, o, rfl, rfl, hi, ho, HO, hw⟩ := hrel
    have hw := hw.symm
    subst hw
    by_cases hlt : i < k
    · have hib : (i : Int) < (k : Int) := by omega
      obtain ⟨o2, ho2⟩ : ∃ o2, o2 = chs n (i + 1) := ⟨_, rfl⟩
      obtain ⟨P, hP⟩ : ∃ P : Nat, P = (i + 1) * o2 := ⟨_, rfl⟩
      have h2 : o2 ≤ 1073741824 := by
        have h := chs_le n (i + 1)
        have h30 : 2 ^ n ≤ 2 ^ 30 := Nat.pow_le_pow_right (by omega) hn
        rw [← ho2] at h
        omega
      have hPe : (o : Int) * ((n : Int) - (i : Int)) = (P : Int) := by
        have h := chs_step n i
        rw [← ho2, ← HO.out, ← hP] at h
        by_cases e : i ≤ n
        · rw [h, show (n : Int) - (i : Int) = ((n - i : Nat) : Int) by omega, ← Int.natCast_mul, Nat.mul_comm]
        · have h0 : o = 0 := by rw [HO.out]; exact chs_over n i (by omega)
          rw [h, h0, show n - i = 0 by omega]; simp
      have hP2 : P ≤ 1001 * 1073741824 := by rw [hP]; exact Nat.mul_le_mul (by omega) h2
      have hwr : IntKind.i64.wrap ((o : Int) * ((n : Int) - (i : Int))) = (P : Int) := by rw [hPe]; exact wrap_ka (by omega) (by omega)
      have hq : Int.tdiv (P : Int) ((i : Int) + 1) = (o2 : Int) := by
        rw [hP, show ((i : Int) + 1) = ((i + 1 : Nat) : Int) by omega, Int.natCast_mul]
        exact Int.mul_tdiv_cancel_left _ (by omega)
      have hne : ((i : Int) + 1) ≠ 0 := by omega
      have HO2 : Hid (o2 = chs n (i + 1)) := ho2
      clear hP hPe ho2
      go_wp2
      go_roundw
      case rel => exact ⟨i + 1, o2, by first | rfl | simp [hwr, hq], by go_num, by omega, h2, HO2.out, by first | rfl | trivial⟩
      case measure => simp [intOf]; omega
    · have hib : ¬ (i : Int) < (k : Int) := by omega
      have hie : i = k := by omega
      subst hie
      go_wp2
      go_ret
      exact ⟨by rw [← HO.out]; rfl, rfl⟩
end Go.Proofs.Ytafebmhbfmdjlab

/- Weights: Krawtchouk's numbers (the program's krawtchouk). -/
namespace Go.Proofs.Ytafebmhbfmdjlab
open Go.RowKit

theorem kterm_le {q n x j l : Nat} (hq : 2 ≤ q) (hx : x ≤ n) (hp : q ^ n ≤ 1073741824) : chs x j * ((q - 1) ^ l * chs (n - x) l) ≤ 1073741824 := by
  have h1 : chs x j ≤ q ^ x := Nat.le_trans (chs_le x j) (Nat.pow_le_pow_left hq x)
  have h2 := chs_pw (q - 1) (n - x) l
  rw [show q - 1 + 1 = q by omega] at h2
  have h3 : q ^ x * q ^ (n - x) = q ^ n := by rw [← Nat.pow_add, show x + (n - x) = n by omega]
  have h4 := Nat.mul_le_mul h1 h2
  omega
theorem sign_is (j : Nat) : ((-1 : Int) ^ j = 1 ∨ (-1 : Int) ^ j = -1) := by
  induction j with
  | zero => exact Or.inl rfl
  | succ j ih => rw [Int.pow_succ]; rcases ih with h | h <;> rw [h] <;> simp

set_option maxHeartbeats 4000000 in
set_option maxRecDepth 100000 in
theorem kraw_any (q n k x : Nat) (hq : 2 ≤ q) (hq2 : q ≤ 64) (hp : q ^ n ≤ 1073741824) (hk : k ≤ n) (hx : x ≤ n) (w : World) :
    Calls Try.prog 64 #[.int .i64 (q : Nat), .int .i64 (n : Nat), .int .i64 (k : Nat), .int .i64 (x : Nat)] w fun e w' => e = .returned (.int .i64 (krw q n k x (k + 1))) ∧ w' = w := by
  have hn30 : n ≤ 30 := pow30 hq hp
  go_enter Try.func64, Try.ntmps64
  go_wp2
  go_loopw [9, 10, 14] (fun vs vg vj wr => ∃ (j : Nat) (s g : Int), vs = .int .i64 s ∧ vg = .int .i64 g ∧ vj = .int .i64 (j : Nat) ∧ j ≤ k + 1 ∧ Hid (s = krw q n k x j ∧ g = (-1) ^ j ∧ s.natAbs ≤ j * 1073741824) ∧ wr = w) (fun _ _ vj _ => k + 1 - (intOf vj).toNat)
  case atStart => exact ⟨0, 0, 1, rfl, rfl, rfl, by omega, ⟨rfl, rfl, by simp⟩, rfl⟩
  case round =>
    obtain ⟨j, s, g, rfl, rfl, rfl, hj, HS, hw⟩ := hrel
    have hw := hw.symm
    subst hw
    have hsb := HS.out.2.2
    have hs1 : -34359738368 ≤ s ∧ s ≤ 34359738368 := by
      have : j * 1073741824 ≤ 32 * 1073741824 := Nat.mul_le_mul_right _ (by omega)
      omega
    have hg1 : g = 1 ∨ g = -1 := by rw [HS.out.2.1]; exact sign_is j
    have hgb : -1 ≤ g ∧ g ≤ 1 := by omega
    by_cases hlt : j < k + 1
    · have hib : (j : Int) < (k : Int) + 1 := by omega
      obtain ⟨l, hl⟩ : ∃ l, l = k - j := ⟨_, rfl⟩
      obtain ⟨pw, hpw⟩ : ∃ pw, pw = (q - 1) ^ l := ⟨_, rfl⟩
      obtain ⟨o1, ho1⟩ : ∃ o1, o1 = chs x j := ⟨_, rfl⟩
      obtain ⟨o2, ho2⟩ : ∃ o2, o2 = chs (n - x) l := ⟨_, rfl⟩
      have hpwb : pw ≤ 1073741824 := by
        rw [hpw]
        have h1 : (q - 1) ^ l ≤ q ^ l := Nat.pow_le_pow_left (by omega) l
        have h2 : q ^ l ≤ q ^ n := Nat.pow_le_pow_right (by omega) (by omega)
        omega
      have ho1b : o1 ≤ 1073741824 := by
        rw [ho1]
        have h1 := chs_le x j
        have h2 : 2 ^ x ≤ 2 ^ 30 := Nat.pow_le_pow_right (by omega) (by omega)
        omega
      have hterm : o1 * (pw * o2) ≤ 1073741824 := by rw [ho1, hpw, ho2]; exact kterm_le hq hx hp
      have HPw : Hid (Calls Try.prog 42 #[.int .i64 ((q : Int) - 1), .int .i64 ((k : Int) - (j : Int))] w fun e w' => e = .returned (.int .i64 (pw : Nat)) ∧ w' = w) := by
        show Calls _ _ _ _ _
        rw [show (q : Int) - 1 = ((q - 1 : Nat) : Int) by omega, show (k : Int) - (j : Int) = ((l : Nat) : Int) by omega, hpw]
        exact wpow_is (q - 1) l (by omega) (by omega) (by omega) (by rw [← hpw]; exact hpwb) w
      have HO1 : Hid (Calls Try.prog 81 #[.int .i64 (x : Nat), .int .i64 (j : Nat)] w fun e w' => e = .returned (.int .i64 (o1 : Nat)) ∧ w' = w) := by
        show Calls _ _ _ _ _
        rw [ho1]; exact wover_any x j (by omega) (by omega) w
      have HO2 : Hid (Calls Try.prog 81 #[.int .i64 ((n : Int) - (x : Int)), .int .i64 ((k : Int) - (j : Int))] w fun e w' => e = .returned (.int .i64 (o2 : Nat)) ∧ w' = w) := by
        show Calls _ _ _ _ _
        rw [show (n : Int) - (x : Int) = ((n - x : Nat) : Int) by omega, show (k : Int) - (j : Int) = ((l : Nat) : Int) by omega, ho2]
        exact wover_any (n - x) l (by omega) (by omega) w
      obtain ⟨A1, hA1⟩ : ∃ A1 : Int, A1 = g * (pw : Int) := ⟨_, rfl⟩
      obtain ⟨A2, hA2⟩ : ∃ A2 : Int, A2 = A1 * (o1 : Int) := ⟨_, rfl⟩
      obtain ⟨A3, hA3⟩ : ∃ A3 : Int, A3 = A2 * (o2 : Int) := ⟨_, rfl⟩
      have a1 : A1.natAbs = pw := by rw [hA1, Int.natAbs_mul]; rcases hg1 with h | h <;> rw [h] <;> simp
      have a2 : A2.natAbs = pw * o1 := by rw [hA2, Int.natAbs_mul, a1]; simp
      have a3 : A3.natAbs = o1 * (pw * o2) := by
        rw [hA3, Int.natAbs_mul, a2]
        simp only [Int.natAbs_natCast]
        rw [Nat.mul_comm pw o1, Nat.mul_assoc]
      have hb2 : pw * o1 ≤ 1073741824 * 1073741824 := Nat.mul_le_mul hpwb ho1b
      have hw1 : IntKind.i64.wrap (g * (pw : Int)) = A1 := by rw [← hA1]; exact wrap_ka (by omega) (by omega)
      have hw2 : IntKind.i64.wrap (A1 * (o1 : Int)) = A2 := by rw [← hA2]; exact wrap_ka (by omega) (by omega)
      have hw3 : IntKind.i64.wrap (A2 * (o2 : Int)) = A3 := by rw [← hA3]; exact wrap_ka (by omega) (by omega)
      have hA3b : -1073741824 ≤ A3 ∧ A3 ≤ 1073741824 := by omega
      have HR : Hid (s + A3 = krw q n k x (j + 1) ∧ -g = (-1) ^ (j + 1) ∧ (s + A3).natAbs ≤ (j + 1) * 1073741824) := by
        refine ⟨?_, ?_, ?_⟩
        · show s + A3 = krw q n k x j + (-1) ^ j * (chs x j : Nat) * bl ((q : Int) - 1) (n - x) (k - j)
          rw [HS.out.1, hA3, hA2, hA1, HS.out.2.1, ho1, ho2, hpw, ← hl]
          unfold bl
          rw [show ((q : Int) - 1) = ((q - 1 : Nat) : Int) by omega, ← Int.natCast_pow]
          have e : ∀ a b c d : Int, a * b * c * d = a * c * (b * d) := fun a b c d => by
            rw [Int.mul_assoc a b c, Int.mul_comm b c, ← Int.mul_assoc a c b, Int.mul_assoc (a * c) b d]
          rw [e]
        · rw [HS.out.2.1, Int.pow_succ]; simp
        · have := Int.natAbs_add_le s A3
          rw [Nat.add_mul, Nat.one_mul]
          omega
      clear hA1 hA2 hA3 a1 a2 a3 hb2 hterm hpw ho1 ho2 hl hg1 hsb HS
      go_wp2_with fail
      refine HPw.out.mono ?_
      rintro e w' ⟨rfl, hw⟩
      have hw := hw.symm
      subst hw
      go_wp2_with fail
      refine HO1.out.mono ?_
      rintro e w' ⟨rfl, hw⟩
      have hw := hw.symm
      subst hw
      go_wp2_with fail
      refine HO2.out.mono ?_
      rintro e w' ⟨rfl, hw⟩
      have hw := hw.symm
      subst hw
      go_wp2
      go_roundw
      case rel => exact ⟨j + 1, s + A3, -g, by first | rfl | simp [hw3], by first | rfl | simp, by go_num, by omega, HR.out, by first | rfl | trivial⟩
      case measure => simp [intOf]; omega
    · have hib : ¬ (j : Int) < (k : Int) + 1 := by omega
      have hje : j = k + 1 := by omega
      subst hje
      go_wp2
      go_ret
      exact ⟨by rw [← HS.out.1]; rfl, rfl⟩
end Go.Proofs.Ytafebmhbfmdjlab

/- Weights: Krawtchouk's numbers (the reference's Kraw). -/
namespace Go.Proofs.Ytafebmhbfmdjlab
open Go.RowKit

end Go.Proofs.Ytafebmhbfmdjlab

/- Weights: what is said of a size and a length, on both sides (Check, CountMay). -/
namespace Go.Proofs.Ytafebmhbfmdjlab
open Go.RowKit

/-- What is said of a length over a field. -/
def FD.wck (D : FD) (n : Int) : Int := if n < 1 then 4 else if D.q ^ n.toNat ≤ 1073741824 then 0 else 4
set_option maxHeartbeats 2000000 in
set_option maxRecDepth 100000 in
theorem wcheck_any {D : FD} (hD : D ∈ fieldsL) (n : Int) (hn : n ≤ 9223372036854775807) (w : World) :
    Calls Try.prog 25 #[.int .i64 D.q, .int .i64 n] w fun e w' => e = .returned (.int .i64 (D.wck n)) ∧ Below w.heap.size w w' := by
  have HD : Hid (D ∈ fieldsL) := hD
  have h2 := (fld hD).q2
  have h64 := (fld hD).q64
  clear hD
  go_enter Try.func25, Try.ntmps25
  go_wp2_with fail
  refine (new_any HD.out w).mono ?_
  rintro e w1 ⟨F, T, g, rfl, _, _, _, hb1⟩
  have H1 : Hid (Below w.heap.size w w1) := hb1
  clear hb1
  by_cases h1 : n < 1
  · have HE : Hid (D.wck n = 4) := by show D.wck n = 4; unfold FD.wck; rw [if_pos h1]
    go_wp2
    go_ret
    exact ⟨by rw [HE.out]; rfl, H1.out⟩
  · have HP : Hid (Calls Try.prog 42 #[.int .i64 (D.q : Nat), .int .i64 n] w1 (PwB D.q n w1)) := wpow_any D.q n h2 h64 (by omega) hn w1
    go_wp2_with fail
    refine HP.out.mono ?_
    rintro e w' ⟨v, rfl, hw, hv, hv2⟩
    have hw := hw.symm
    subst hw
    rcases hv with ⟨hp, hv⟩ | ⟨hp, hv⟩
    · have hvb : ¬ (1073741824 : Int) < (v : Int) := by omega
      have hvb2 : ¬ (v : Int) > 1073741824 := by omega
      have HE : Hid (D.wck n = 0) := by show D.wck n = 0; unfold FD.wck; rw [if_neg (by omega), if_pos hp]
      clear hp hv
      go_wp2
      go_ret
      exact ⟨by rw [HE.out]; rfl, H1.out⟩
    · have hvb : (1073741824 : Int) < (v : Int) := by omega
      have hvb2 : (v : Int) > 1073741824 := by omega
      have HE : Hid (D.wck n = 4) := by show D.wck n = 4; unfold FD.wck; rw [if_neg (by omega), if_neg (by omega)]
      clear hp hv
      go_wp2
      go_ret
      exact ⟨by rw [HE.out]; rfl, H1.out⟩
end Go.Proofs.Ytafebmhbfmdjlab

/- Weights: sums and looks by closures (the program's times, found, outside; Shows' closures). -/
namespace Go.Proofs.Ytafebmhbfmdjlab
open Go.RowKit Go.Sort

/-- The sum of the first products. -/
def vsm (f K : Nat → Int) : Nat → Int
  | 0 => 0
  | r + 1 => vsm f K r + f r * K r
end Go.Proofs.Ytafebmhbfmdjlab

/- Weights: what Shows asks of its closures (outside, found, Shows$1, Shows$1$1, Shows$2, checkDistance). -/
namespace Go.Proofs.Ytafebmhbfmdjlab
open Go.RowKit Go.Sort

def kv (q n k x : Nat) : Int := kc (kwc ((q : Int) - 1) x) n k
theorem krawv_any (q n k x : Nat) (hq : 2 ≤ q) (hq2 : q ≤ 64) (hp : q ^ n ≤ 1073741824) (hk : k ≤ n) (hx : x ≤ n) (w : World) :
    Calls Try.prog 64 #[.int .i64 (q : Nat), .int .i64 (n : Nat), .int .i64 (k : Nat), .int .i64 (x : Nat)] w fun e w' => e = .returned (.int .i64 (kv q n k x)) ∧ w' = w := by
  have h := kraw_any q n k x hq hq2 hp hk hx w
  rw [krw_is q n k x hx] at h
  exact h
end Go.Proofs.Ytafebmhbfmdjlab

/- Weights: Shows of the program. -/
namespace Go.Proofs.Ytafebmhbfmdjlab
open Go.RowKit Go.Sort

end Go.Proofs.Ytafebmhbfmdjlab

/- Weights: Shows of the program where the lengths may be. -/
namespace Go.Proofs.Ytafebmhbfmdjlab
open Go.RowKit Go.Sort

end Go.Proofs.Ytafebmhbfmdjlab

/- Weights: the reference's CountMay. -/
namespace Go.Proofs.Ytafebmhbfmdjlab
open Go.RowKit Go.Sort

end Go.Proofs.Ytafebmhbfmdjlab

/- WeightsShow's walk where something is wrong (printed by make/ka10.py). -/
namespace Go.Proofs.Ytafebmhbfmdjlab
open Go.RowKit Go.Sort

end Go.Proofs.Ytafebmhbfmdjlab

/- WeightsShow's walk where the lengths may be (printed by make/ka11.py). -/
namespace Go.Proofs.Ytafebmhbfmdjlab
open Go.RowKit Go.Sort
theorem SlZ.cell {b off n : Nat} {z : Nat → Int} {w : World} (h : SlZ (some ⟨b, off, none⟩) n z w) {j : Nat} (hj : j < n) : w.cell? ⟨b, off + j, none⟩ = some (.int .i64 (z j)) := by
  obtain ⟨b', off', e, hc⟩ := h j hj
  cases e
  exact hc

end Go.Proofs.Ytafebmhbfmdjlab

/- Weights: Griesmer's bound, both sides (printed by make/kb1.py). -/
namespace Go.Proofs.Ytafebmhbfmdjlab
open Go.RowKit Go.Sort

end Go.Proofs.Ytafebmhbfmdjlab

/- Plain mathematics: balls; a sum split into high and low parts, and divided. No Go text here. -/
namespace Go.Proofs.Ytafebmhbfmdjlab

/-- How many words lie within r - 1 places. -/
def bls (q n : Nat) : Nat → Nat
  | 0 => 0
  | r + 1 => bls q n r + (q - 1) ^ r * chs n r
theorem bterm_le {q n r : Nat} (hq : 1 ≤ q) : (q - 1) ^ r * chs n r ≤ q ^ n := by
  have h := chs_pw (q - 1) n r
  rw [show q - 1 + 1 = q by omega] at h
  exact h
theorem bls_le {q n : Nat} (hq : 1 ≤ q) : ∀ r, bls q n r ≤ r * q ^ n
  | 0 => by show 0 ≤ _; omega
  | r + 1 => by
    have h1 := bls_le (n := n) hq r
    have h2 := bterm_le (n := n) (r := r) hq
    show bls q n r + (q - 1) ^ r * chs n r ≤ _
    rw [Nat.add_mul]
    omega
end Go.Proofs.Ytafebmhbfmdjlab

/- Weights: balls, and numbers of sets of the reference (printed by make/kb2.py). -/
namespace Go.Proofs.Ytafebmhbfmdjlab
open Go.RowKit

end Go.Proofs.Ytafebmhbfmdjlab

/- Plain mathematics: sums of products, bounded by the sum of the numbers; split into two parts. No Go text here. -/
namespace Go.Proofs.Ytafebmhbfmdjlab

/-- The sum of numbers. -/
def tsm (f : Nat → Int) (r : Nat) : Int := vsm f (fun _ => 1) r
theorem tsm_succ (f : Nat → Int) (r : Nat) : tsm f (r + 1) = tsm f r + f r := by
  show vsm f (fun _ => 1) r + f r * 1 = _
  rw [Int.mul_one]; rfl
end Go.Proofs.Ytafebmhbfmdjlab

/- Weights: Krawtchouk and the bounds of the program (printed by make/kb3.py). -/
namespace Go.Proofs.Ytafebmhbfmdjlab
open Go.RowKit Go.Sort

set_option maxHeartbeats 2000000 in
set_option maxRecDepth 100000 in
theorem wK_ok (q n k x : Nat) (hq : 2 ≤ q) (hq2 : q ≤ 64) (hp : q ^ n ≤ 1073741824) (hk : k ≤ n) (hx : x ≤ n) {w : World} (hC : Calls Try.prog 25 #[.int .i64 (q : Nat), .int .i64 (n : Nat)] w fun e w' => e = .returned (.int .i64 0) ∧ Below w.heap.size w w') :
    Calls Try.prog 43 #[.int .i64 (q : Nat), .int .i64 (n : Nat), .int .i64 (k : Nat), .int .i64 (x : Nat)] w fun e w' => e = .returned (.tuple #[.int .i64 (kv q n k x), .int .i64 0]) ∧ Below w.heap.size w w' := by
  have HP : Hid (q ^ n ≤ 1073741824) := hp
  clear hp
  have h1 : ¬ (k : Int) < 0 := by omega
  have h2 : ¬ (n : Int) < (k : Int) := by omega
  have h2b : ¬ (k : Int) > (n : Int) := by omega
  have h3 : ¬ (x : Int) < 0 := by omega
  have h4 : ¬ (n : Int) < (x : Int) := by omega
  have h4b : ¬ (x : Int) > (n : Int) := by omega
  have HC : Hid (Calls Try.prog 25 #[.int .i64 (q : Nat), .int .i64 (n : Nat)] w fun e w' => e = .returned (.int .i64 0) ∧ Below w.heap.size w w') := hC
  clear hC
  go_enter Try.func43, Try.ntmps43
  go_wp2_with fail
  refine HC.out.mono ?_
  rintro e w1 ⟨rfl, hb⟩
  have H1 : Hid (Below w.heap.size w w1) := hb
  clear hb
  go_wp2_with fail
  refine (krawv_any q n k x hq hq2 HP.out hk hx _).mono ?_
  rintro e w2 ⟨rfl, hw⟩
  have hw := hw.symm
  subst hw
  go_wp2
  go_ret2
  exact ⟨rfl, H1.out⟩

end Go.Proofs.Ytafebmhbfmdjlab

/- Weights: the program's together and Dual (printed by make/kb5.py). -/
namespace Go.Proofs.Ytafebmhbfmdjlab
open Go.RowKit Go.Sort

end Go.Proofs.Ytafebmhbfmdjlab

/- Weights: the reference's Turned (printed by make/kb6.py). -/
namespace Go.Proofs.Ytafebmhbfmdjlab
open Go.RowKit Go.Sort

end Go.Proofs.Ytafebmhbfmdjlab

/- Weights: the law's walk of MacWilliams' transform (printed by make/kb7.py). -/
namespace Go.Proofs.Ytafebmhbfmdjlab
open Go.RowKit Go.Sort

end Go.Proofs.Ytafebmhbfmdjlab

/- Plain mathematics: sets that are great and meet little are few (Johnson). No Go text here. -/
namespace Go.Proofs.Ytafebmhbfmdjlab

theorem ct_mono {p p' : Nat → Bool} : ∀ n, (∀ i, i < n → p i = true → p' i = true) → ct p n ≤ ct p' n
  | 0, _ => Nat.le_refl _
  | n + 1, h => by
    have h1 := ct_mono n (fun i hi => h i (by omega))
    have h2 := h n (by omega)
    show ct p n + (if p n = true then 1 else 0) ≤ ct p' n + if p' n = true then 1 else 0
    by_cases e : p n = true
    · rw [if_pos e, if_pos (h2 e)]; omega
    · rw [if_neg e]; omega
end Go.Proofs.Ytafebmhbfmdjlab

/- Plain mathematics of Sudan's sum: a message that agrees at many places makes it nought. No Go text here. -/
namespace Go.Proofs.Ytafebmhbfmdjlab
open Go.RowKit Go.Sort

end Go.Proofs.Ytafebmhbfmdjlab

/- Plain mathematics of Sudan's sum, second part: the curve of a message that agrees at t places is nought. No Go text here. -/
namespace Go.Proofs.Ytafebmhbfmdjlab
open Go.RowKit Go.Sort

theorem ct_same {p p' : Nat → Bool} : ∀ n, (∀ i, i < n → p i = p' i) → ct p n = ct p' n
  | 0, _ => rfl
  | n + 1, h => by
    show ct p n + (if p n = true then 1 else 0) = ct p' n + if p' n = true then 1 else 0
    rw [ct_same n (fun i hi => h i (by omega)), h n (by omega)]
end Go.Proofs.Ytafebmhbfmdjlab
