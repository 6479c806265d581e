/- Golay: are there few enough sets: checkSets, SetsMay. -/
import Derived.Test.YtafebmhbfmdjlaaZKR5
namespace Go.Proofs.Ytafebmhbfmdjlaa
open Go.RowKit

/-- Are there few enough sets of up to t places? -/
def smB (n : Nat) : Nat → Bool
  | 0 => true
  | t + 1 => smB n t && decide (chs n (t + 1) ≤ 50000)
def sme (n t : Nat) : Int := if smB n t = true then 0 else 4
theorem smB_no {n t : Nat} (h : ¬ chs n (t + 1) ≤ 50000) : ∀ d, smB n (t + 1 + d) = false
  | 0 => by show (smB n t && decide (chs n (t + 1) ≤ 50000)) = false; rw [decide_eq_false h, Bool.and_false]
  | d + 1 => by show (smB n (t + 1 + d) && _) = false; rw [smB_no h d, Bool.false_and]

set_option maxHeartbeats 4000000 in
set_option maxRecDepth 100000 in
theorem checkSets_any {n t : Nat} (hn : n ≤ 64) (ht : t ≤ n) (w : World) :
    Calls Try.prog 15 #[.int .i64 (n : Nat), .int .i64 (t : Nat)] w fun e w' => e = .returned (.int .i64 (sme n t)) ∧ w' = w := by
  go_enter Try.func15, Try.ntmps15
  go_wp2
  go_loopw [5, 6, 8] (fun vm _ vi wr => ∃ i m : Nat, vm = .int .i64 (m : Nat) ∧ vi = .int .i64 (i : Nat) ∧ i ≤ t ∧ m ≤ 50000 ∧ Hid (m = chs n i ∧ smB n i = true ∧ wr = w)) (fun _ _ vi _ => t - (intOf vi).toNat)
  case atStart => exact ⟨0, 1, rfl, rfl, by omega, by omega, (chs_zero n).symm, rfl, rfl⟩
  case round =>
    obtain ⟨i, m, rfl, rfl, hi, hm, HS⟩ := hrel
    have hw := HS.out.2.2.symm
    subst hw
    by_cases hlt : i < t
    · have hib : (i : Int) < (t : Int) := by omega
      obtain ⟨a, ha⟩ : ∃ a, a = n - i := ⟨_, rfl⟩
      have hai : (n : Int) - (i : Int) = (a : Int) := by omega
      have ha64 : a ≤ 64 := by omega
      obtain ⟨M, hM⟩ : ∃ M, M = m * a := ⟨_, rfl⟩
      have hMb : M ≤ 3200000 := by rw [hM]; exact Nat.mul_le_mul hm ha64
      have hmul : (m : Int) * (a : Int) = (M : Int) := by rw [hM]; simp
      obtain ⟨i1, hi1⟩ : ∃ i1, i1 = i + 1 := ⟨_, rfl⟩
      have hiw : IntKind.i64.wrap ((i : Int) + 1) = (i1 : Int) := by rw [hi1]; exact wrap_to (by omega) (by omega)
      obtain ⟨c, hc⟩ : ∃ c, c = chs n (i + 1) := ⟨_, rfl⟩
      have hdiv : M = c * i1 := by
        have := chs_step n i
        rw [hM, hi1, HS.out.1, ha, hc, Nat.mul_comm (chs n i), ← this, Nat.mul_comm]
      have hi1p : 0 < i1 := by omega
      have hi1z : ((i1 : Int) == 0) = false := by rw [beq_eq_false_iff_ne]; omega
      have hi1n : ¬ (i1 : Int) = 0 := by omega
      have hi1b : i1 ≤ 65 := by omega
      have htd : (M : Int).tdiv (i1 : Int) = (c : Int) := by
        rw [Int.tdiv_eq_ediv_of_nonneg (by omega), hdiv]
        rw [show ((c * i1 : Nat) : Int) = (c : Int) * (i1 : Int) by simp]
        exact Int.mul_ediv_cancel _ (by omega)
      have hcb : c ≤ 3200000 := by
        have : c * 1 ≤ c * i1 := Nat.mul_le_mul_left _ hi1p
        omega
      have HI : Hid (i1 = i + 1 ∧ c = chs n (i + 1)) := ⟨hi1, hc⟩
      clear hdiv hM ha hi1 hc
      by_cases hgt : 50000 < c
      · have hgi : (50000 : Int) < (c : Int) := by omega
        have HE : Hid (sme n t = 4) := by
          have := smB_no (n := n) (t := i) (by rw [← HI.out.2]; omega) (t - (i + 1))
          rw [show i + 1 + (t - (i + 1)) = t by omega] at this
          show (if smB n t = true then (0 : Int) else 4) = 4
          rw [this]; rfl
        go_wp2
        go_ret
        exact ⟨by rw [HE.out]; rfl, rfl⟩
      · have hgi : ¬ (50000 : Int) < (c : Int) := by omega
        have HE : Hid (c = chs n i1 ∧ smB n i1 = true) := by
          refine ⟨by rw [HI.out.1]; exact HI.out.2, ?_⟩
          rw [HI.out.1]
          show (smB n i && decide (chs n (i + 1) ≤ 50000)) = true
          rw [HS.out.2.1, ← HI.out.2, decide_eq_true (by omega)]; rfl
        clear HS
        go_wp2
        go_roundw
        case rel => exact ⟨i1, c, by first | rfl | go_num, by first | rfl | rw [hiw] | (rw [HI.out.1]; go_num), by have := HI.out.1; omega, by omega, HE.out.1, HE.out.2, by first | rfl | trivial⟩
        case measure => have := HI.out.1; simp [intOf]; omega
    · have hib : ¬ (i : Int) < (t : Int) := by omega
      have hie : i = t := by omega
      subst hie
      have HE : Hid (sme n i = 0) := if_pos HS.out.2.1
      go_wp2
      go_ret
      exact ⟨by rw [HE.out]; rfl, rfl⟩

set_option maxHeartbeats 4000000 in
set_option maxRecDepth 100000 in
theorem setsMay_any {n t : Nat} (hn : n ≤ 64) (ht : t ≤ n) (w : World) :
    Calls Try.prog 5 #[.int .i64 (n : Nat), .int .i64 (t : Nat)] w fun e w' => e = .returned (.bool (smB n t)) ∧ Below w.heap.size w w' := by
  go_enter Try.func5, Try.ntmps5
  go_wp2
  go_loopw [5] (fun vi wr => ∃ i : Nat, vi = .int .i64 (i : Nat) ∧ i ≤ t + 1 ∧ Hid ((0 < i → smB n (i - 1) = true) ∧ Below w.heap.size w wr)) (fun vi _ => t + 1 - (intOf vi).toNat)
  case atStart => exact ⟨0, rfl, by omega, fun h => absurd h (by omega), Below.refl _ _⟩
  case round =>
    obtain ⟨i, rfl, hi, HS⟩ := hrel
    rename World => wr
    by_cases hlt : i ≤ t
    · have hib : (i : Int) ≤ (t : Int) := by omega
      obtain ⟨c, hc⟩ : ∃ c, c = chs n i := ⟨_, rfl⟩
      have hcb : c ≤ 2305843009213693952 := by rw [hc]; exact chs64_le hn i
      have HC : Hid (Calls Try.prog 8 #[.int .i64 (n : Nat), .int .i64 (i : Nat)] wr fun e w' => e = .returned (.int .i64 (c : Nat)) ∧ Below wr.heap.size wr w') := by
        show Calls _ _ _ _ _
        rw [hc]; exact rchoose64_any n i hn (by omega) wr
      have HI : Hid (c = chs n i) := hc
      clear hc
      go_wp2_with fail
      refine HC.out.mono ?_
      rintro e wx ⟨rfl, hb⟩
      have HB : Hid (Below w.heap.size w wx) := bel_up' HS.out.2 hb
      clear hb HC
      by_cases hgt : 50000 < c
      · have hgi : (50000 : Int) < (c : Int) := by omega
        have HE : Hid (smB n t = false) := by
          cases i with
          | zero => have := HI.out; rw [chs_zero] at this; omega
          | succ i =>
            have := smB_no (n := n) (t := i) (by rw [← HI.out]; omega) (t - (i + 1))
            rw [show i + 1 + (t - (i + 1)) = t by omega] at this
            exact this
        go_wp2
        go_ret
        exact ⟨by rw [HE.out]; rfl, HB.out⟩
      · have hgi : ¬ (50000 : Int) < (c : Int) := by omega
        have HE : Hid (smB n i = true) := by
          cases i with
          | zero => rfl
          | succ i =>
            show (smB n i && decide (chs n (i + 1) ≤ 50000)) = true
            have h1 := HS.out.1 (by omega)
            rw [show i + 1 - 1 = i by omega] at h1
            rw [h1, ← HI.out, decide_eq_true (by omega)]; rfl
        clear HS
        go_wp2
        go_roundw
        case rel => exact ⟨i + 1, by go_num, by omega, fun _ => by rw [show i + 1 - 1 = i by omega]; exact HE.out, HB.out⟩
        case measure => simp [intOf]; omega
    · have hib : ¬ (i : Int) ≤ (t : Int) := by omega
      have hie : i = t + 1 := by omega
      have HE : Hid (smB n t = true ∧ Below w.heap.size w wr) := by
        refine ⟨?_, HS.out.2⟩
        have := HS.out.1 (by omega)
        rw [hie, show t + 1 - 1 = t by omega] at this
        exact this
      clear hie HS
      go_wp2
      go_ret
      exact ⟨by rw [HE.out.1]; rfl, HE.out.2⟩
end Go.Proofs.Ytafebmhbfmdjlaa
