/- Signs that check: the reference's SignMay. -/
import Derived.Test.YtonjkpakbmbafaaZKK8
namespace Go.Proofs.Ytonjkpakbmbafaa
open Go.RowKit

set_option maxHeartbeats 8000000 in
set_option maxRecDepth 100000 in
theorem signMay_1 (s : ByteArray) (w : World) (hs : s.size ≤ 1000000) :
    Calls Try.prog 25 #[.int .i64 1, .string s] w fun e w' => e = .returned (.int .i64 (sgE 1 s)) ∧ w' = w := by
  have hrange : sgl 1 = 1 ∧ sgh 1 = 64 := ⟨rfl, rfl⟩
  obtain ⟨E, hE⟩ : ∃ E, E = sgE 1 s := ⟨_, rfl⟩
  rw [← hE]
  unfold sgE at hE
  rw [hrange.1, hrange.2] at hE
  clear hrange
  by_cases c1 : s.size = 0
  · have i1 : ((s.size : Int) == 0) = true := by rw [c1]; rfl
    have HV : Hid (E = 6) := by rw [if_pos (by omega)] at hE; exact hE
    clear hE c1
    go_enter Try.func25, Try.ntmps25
    go_wp2
    go_ret
    exact ⟨by rw [HV.out]; rfl, rfl⟩
  have i1 : ((s.size : Int) == 0) = false := by rw [beq_eq_false_iff_ne]; omega
  by_cases c2 : 64 < s.size
  · have i2 : (64 : Int) < (s.size : Int) := by omega
    have HV : Hid (E = 6) := by rw [if_pos (by omega)] at hE; exact hE
    clear hE c2
    go_enter Try.func25, Try.ntmps25
    go_wp2
    go_ret
    exact ⟨by rw [HV.out]; rfl, rfl⟩
  have i2 : ¬ (64 : Int) < (s.size : Int) := by omega
  have HF : Hid (E = if dgs s s.size = true then 0 else 11) := by rw [if_neg (by omega)] at hE; exact hE
  clear hE c1 
  go_enter Try.func25, Try.ntmps25
  go_wp2
  go_loopw [5] (fun vi wr => ∃ (t : Nat), t ≤ s.size ∧ vi = .int .i64 (t : Nat) ∧ Hid (dgs s t = true ∧ wr = w)) (fun vi _ => s.size - (intOf vi).toNat)
  case atStart => exact ⟨0, by omega, rfl, rfl, rfl⟩
  case round =>
    obtain ⟨t, ht, rfl, HG⟩ := hrel
    rename World => wr
    have hw : wr = w := HG.out.2
    subst hw
    by_cases hlt : t < s.size
    · have hib : (t : Int) < (s.size : Int) := by omega
      have hib0 : (0 : Int) ≤ (t : Int) := by omega
      have hbt := byt_at s t hlt
      by_cases h1 : byt s t < 48
      · have i4 : ((s[t]'hlt).toNat : Int) < 48 := by omega
        have HD : Hid (E = 11) := by show E = 11; rw [HF.out, if_neg (by rw [dgs_no (by omega) _ hlt]; decide)]
        clear hbt h1
        go_wp2
        go_ret
        exact ⟨by rw [HD.out]; rfl, rfl⟩
      have i4 : ¬ ((s[t]'hlt).toNat : Int) < 48 := by omega
      by_cases h2 : 57 < byt s t
      · have i5 : (57 : Int) < ((s[t]'hlt).toNat : Int) := by omega
        have HD : Hid (E = 11) := by show E = 11; rw [HF.out, if_neg (by rw [dgs_no (by omega) _ hlt]; decide)]
        clear hbt h1 h2
        go_wp2
        go_ret
        exact ⟨by rw [HD.out]; rfl, rfl⟩
      have i5 : ¬ (57 : Int) < ((s[t]'hlt).toNat : Int) := by omega
      have HS : Hid (dgs s (t + 1) = true) := dgs_yes HG.out.1 (by omega)
      clear hbt h1 h2
      go_wp2
      go_roundw
      case rel => exact ⟨t + 1, by omega, by go_num, HS.out, by first | rfl | trivial⟩
      case measure => simp [intOf]; omega
    · have hib : ¬ (t : Int) < (s.size : Int) := by omega
      have hte : t = s.size := by omega
      have HD : Hid (E = 0) := by show E = 0; rw [HF.out, if_pos (by rw [← hte]; exact HG.out.1)]
      clear hte
      go_wp2
      go_ret
      exact ⟨by rw [HD.out]; rfl, rfl⟩

set_option maxHeartbeats 8000000 in
set_option maxRecDepth 100000 in
theorem signMay_2 (s : ByteArray) (w : World) (hs : s.size ≤ 1000000) :
    Calls Try.prog 25 #[.int .i64 2, .string s] w fun e w' => e = .returned (.int .i64 (sgE 2 s)) ∧ w' = w := by
  have hrange : sgl 2 = 9 ∧ sgh 2 = 9 := ⟨rfl, rfl⟩
  obtain ⟨E, hE⟩ : ∃ E, E = sgE 2 s := ⟨_, rfl⟩
  rw [← hE]
  unfold sgE at hE
  rw [hrange.1, hrange.2] at hE
  clear hrange
  by_cases c1 : s.size = 0
  · have i1 : ((s.size : Int) == 0) = true := by rw [c1]; rfl
    have HV : Hid (E = 6) := by rw [if_pos (by omega)] at hE; exact hE
    clear hE c1
    go_enter Try.func25, Try.ntmps25
    go_wp2
    go_ret
    exact ⟨by rw [HV.out]; rfl, rfl⟩
  have i1 : ((s.size : Int) == 0) = false := by rw [beq_eq_false_iff_ne]; omega
  by_cases c2 : 64 < s.size
  · have i2 : (64 : Int) < (s.size : Int) := by omega
    have HV : Hid (E = 6) := by rw [if_pos (by omega)] at hE; exact hE
    clear hE c2
    go_enter Try.func25, Try.ntmps25
    go_wp2
    go_ret
    exact ⟨by rw [HV.out]; rfl, rfl⟩
  have i2 : ¬ (64 : Int) < (s.size : Int) := by omega
  by_cases c3 : ¬ s.size = 9
  · have i3 : ((s.size : Int) != 9) = true := by rw [bne_iff_ne]; omega
    have HV : Hid (E = 6) := by rw [if_pos (by omega)] at hE; exact hE
    clear hE c3
    go_enter Try.func25, Try.ntmps25
    go_wp2
    go_ret
    exact ⟨by rw [HV.out]; rfl, rfl⟩
  have i3 : ((s.size : Int) != 9) = false := by rw [bne_eq_false_iff_eq]; omega
  have HF : Hid (E = if dgs s s.size = true then 0 else 11) := by rw [if_neg (by omega)] at hE; exact hE
  clear hE c1 c3 
  go_enter Try.func25, Try.ntmps25
  go_wp2
  go_loopw [5] (fun vi wr => ∃ (t : Nat), t ≤ s.size ∧ vi = .int .i64 (t : Nat) ∧ Hid (dgs s t = true ∧ wr = w)) (fun vi _ => s.size - (intOf vi).toNat)
  case atStart => exact ⟨0, by omega, rfl, rfl, rfl⟩
  case round =>
    obtain ⟨t, ht, rfl, HG⟩ := hrel
    rename World => wr
    have hw : wr = w := HG.out.2
    subst hw
    by_cases hlt : t < s.size
    · have hib : (t : Int) < (s.size : Int) := by omega
      have hib0 : (0 : Int) ≤ (t : Int) := by omega
      have hbt := byt_at s t hlt
      by_cases h1 : byt s t < 48
      · have i4 : ((s[t]'hlt).toNat : Int) < 48 := by omega
        have HD : Hid (E = 11) := by show E = 11; rw [HF.out, if_neg (by rw [dgs_no (by omega) _ hlt]; decide)]
        clear hbt h1
        go_wp2
        go_ret
        exact ⟨by rw [HD.out]; rfl, rfl⟩
      have i4 : ¬ ((s[t]'hlt).toNat : Int) < 48 := by omega
      by_cases h2 : 57 < byt s t
      · have i5 : (57 : Int) < ((s[t]'hlt).toNat : Int) := by omega
        have HD : Hid (E = 11) := by show E = 11; rw [HF.out, if_neg (by rw [dgs_no (by omega) _ hlt]; decide)]
        clear hbt h1 h2
        go_wp2
        go_ret
        exact ⟨by rw [HD.out]; rfl, rfl⟩
      have i5 : ¬ (57 : Int) < ((s[t]'hlt).toNat : Int) := by omega
      have HS : Hid (dgs s (t + 1) = true) := dgs_yes HG.out.1 (by omega)
      clear hbt h1 h2
      go_wp2
      go_roundw
      case rel => exact ⟨t + 1, by omega, by go_num, HS.out, by first | rfl | trivial⟩
      case measure => simp [intOf]; omega
    · have hib : ¬ (t : Int) < (s.size : Int) := by omega
      have hte : t = s.size := by omega
      have HD : Hid (E = 0) := by show E = 0; rw [HF.out, if_pos (by rw [← hte]; exact HG.out.1)]
      clear hte
      go_wp2
      go_ret
      exact ⟨by rw [HD.out]; rfl, rfl⟩

set_option maxHeartbeats 8000000 in
set_option maxRecDepth 100000 in
theorem signMay_3 (s : ByteArray) (w : World) (hs : s.size ≤ 1000000) :
    Calls Try.prog 25 #[.int .i64 3, .string s] w fun e w' => e = .returned (.int .i64 (sgE 3 s)) ∧ w' = w := by
  have hrange : sgl 3 = 12 ∧ sgh 3 = 12 := ⟨rfl, rfl⟩
  obtain ⟨E, hE⟩ : ∃ E, E = sgE 3 s := ⟨_, rfl⟩
  rw [← hE]
  unfold sgE at hE
  rw [hrange.1, hrange.2] at hE
  clear hrange
  by_cases c1 : s.size = 0
  · have i1 : ((s.size : Int) == 0) = true := by rw [c1]; rfl
    have HV : Hid (E = 6) := by rw [if_pos (by omega)] at hE; exact hE
    clear hE c1
    go_enter Try.func25, Try.ntmps25
    go_wp2
    go_ret
    exact ⟨by rw [HV.out]; rfl, rfl⟩
  have i1 : ((s.size : Int) == 0) = false := by rw [beq_eq_false_iff_ne]; omega
  by_cases c2 : 64 < s.size
  · have i2 : (64 : Int) < (s.size : Int) := by omega
    have HV : Hid (E = 6) := by rw [if_pos (by omega)] at hE; exact hE
    clear hE c2
    go_enter Try.func25, Try.ntmps25
    go_wp2
    go_ret
    exact ⟨by rw [HV.out]; rfl, rfl⟩
  have i2 : ¬ (64 : Int) < (s.size : Int) := by omega
  by_cases c3 : ¬ s.size = 12
  · have i3 : ((s.size : Int) != 12) = true := by rw [bne_iff_ne]; omega
    have HV : Hid (E = 6) := by rw [if_pos (by omega)] at hE; exact hE
    clear hE c3
    go_enter Try.func25, Try.ntmps25
    go_wp2
    go_ret
    exact ⟨by rw [HV.out]; rfl, rfl⟩
  have i3 : ((s.size : Int) != 12) = false := by rw [bne_eq_false_iff_eq]; omega
  have HF : Hid (E = if dgs s s.size = true then 0 else 11) := by rw [if_neg (by omega)] at hE; exact hE
  clear hE c1 c3 
  go_enter Try.func25, Try.ntmps25
  go_wp2
  go_loopw [5] (fun vi wr => ∃ (t : Nat), t ≤ s.size ∧ vi = .int .i64 (t : Nat) ∧ Hid (dgs s t = true ∧ wr = w)) (fun vi _ => s.size - (intOf vi).toNat)
  case atStart => exact ⟨0, by omega, rfl, rfl, rfl⟩
  case round =>
    obtain ⟨t, ht, rfl, HG⟩ := hrel
    rename World => wr
    have hw : wr = w := HG.out.2
    subst hw
    by_cases hlt : t < s.size
    · have hib : (t : Int) < (s.size : Int) := by omega
      have hib0 : (0 : Int) ≤ (t : Int) := by omega
      have hbt := byt_at s t hlt
      by_cases h1 : byt s t < 48
      · have i4 : ((s[t]'hlt).toNat : Int) < 48 := by omega
        have HD : Hid (E = 11) := by show E = 11; rw [HF.out, if_neg (by rw [dgs_no (by omega) _ hlt]; decide)]
        clear hbt h1
        go_wp2
        go_ret
        exact ⟨by rw [HD.out]; rfl, rfl⟩
      have i4 : ¬ ((s[t]'hlt).toNat : Int) < 48 := by omega
      by_cases h2 : 57 < byt s t
      · have i5 : (57 : Int) < ((s[t]'hlt).toNat : Int) := by omega
        have HD : Hid (E = 11) := by show E = 11; rw [HF.out, if_neg (by rw [dgs_no (by omega) _ hlt]; decide)]
        clear hbt h1 h2
        go_wp2
        go_ret
        exact ⟨by rw [HD.out]; rfl, rfl⟩
      have i5 : ¬ (57 : Int) < ((s[t]'hlt).toNat : Int) := by omega
      have HS : Hid (dgs s (t + 1) = true) := dgs_yes HG.out.1 (by omega)
      clear hbt h1 h2
      go_wp2
      go_roundw
      case rel => exact ⟨t + 1, by omega, by go_num, HS.out, by first | rfl | trivial⟩
      case measure => simp [intOf]; omega
    · have hib : ¬ (t : Int) < (s.size : Int) := by omega
      have hte : t = s.size := by omega
      have HD : Hid (E = 0) := by show E = 0; rw [HF.out, if_pos (by rw [← hte]; exact HG.out.1)]
      clear hte
      go_wp2
      go_ret
      exact ⟨by rw [HD.out]; rfl, rfl⟩

set_option maxHeartbeats 8000000 in
set_option maxRecDepth 100000 in
theorem signMay_4 (s : ByteArray) (w : World) (hs : s.size ≤ 1000000) :
    Calls Try.prog 25 #[.int .i64 4, .string s] w fun e w' => e = .returned (.int .i64 (sgE 4 s)) ∧ w' = w := by
  have hrange : sgl 4 = 1 ∧ sgh 4 = 64 := ⟨rfl, rfl⟩
  obtain ⟨E, hE⟩ : ∃ E, E = sgE 4 s := ⟨_, rfl⟩
  rw [← hE]
  unfold sgE at hE
  rw [hrange.1, hrange.2] at hE
  clear hrange
  by_cases c1 : s.size = 0
  · have i1 : ((s.size : Int) == 0) = true := by rw [c1]; rfl
    have HV : Hid (E = 6) := by rw [if_pos (by omega)] at hE; exact hE
    clear hE c1
    go_enter Try.func25, Try.ntmps25
    go_wp2
    go_ret
    exact ⟨by rw [HV.out]; rfl, rfl⟩
  have i1 : ((s.size : Int) == 0) = false := by rw [beq_eq_false_iff_ne]; omega
  by_cases c2 : 64 < s.size
  · have i2 : (64 : Int) < (s.size : Int) := by omega
    have HV : Hid (E = 6) := by rw [if_pos (by omega)] at hE; exact hE
    clear hE c2
    go_enter Try.func25, Try.ntmps25
    go_wp2
    go_ret
    exact ⟨by rw [HV.out]; rfl, rfl⟩
  have i2 : ¬ (64 : Int) < (s.size : Int) := by omega
  have HF : Hid (E = if dgs s s.size = true then 0 else 11) := by rw [if_neg (by omega)] at hE; exact hE
  clear hE c1 
  go_enter Try.func25, Try.ntmps25
  go_wp2
  go_loopw [5] (fun vi wr => ∃ (t : Nat), t ≤ s.size ∧ vi = .int .i64 (t : Nat) ∧ Hid (dgs s t = true ∧ wr = w)) (fun vi _ => s.size - (intOf vi).toNat)
  case atStart => exact ⟨0, by omega, rfl, rfl, rfl⟩
  case round =>
    obtain ⟨t, ht, rfl, HG⟩ := hrel
    rename World => wr
    have hw : wr = w := HG.out.2
    subst hw
    by_cases hlt : t < s.size
    · have hib : (t : Int) < (s.size : Int) := by omega
      have hib0 : (0 : Int) ≤ (t : Int) := by omega
      have hbt := byt_at s t hlt
      by_cases h1 : byt s t < 48
      · have i4 : ((s[t]'hlt).toNat : Int) < 48 := by omega
        have HD : Hid (E = 11) := by show E = 11; rw [HF.out, if_neg (by rw [dgs_no (by omega) _ hlt]; decide)]
        clear hbt h1
        go_wp2
        go_ret
        exact ⟨by rw [HD.out]; rfl, rfl⟩
      have i4 : ¬ ((s[t]'hlt).toNat : Int) < 48 := by omega
      by_cases h2 : 57 < byt s t
      · have i5 : (57 : Int) < ((s[t]'hlt).toNat : Int) := by omega
        have HD : Hid (E = 11) := by show E = 11; rw [HF.out, if_neg (by rw [dgs_no (by omega) _ hlt]; decide)]
        clear hbt h1 h2
        go_wp2
        go_ret
        exact ⟨by rw [HD.out]; rfl, rfl⟩
      have i5 : ¬ (57 : Int) < ((s[t]'hlt).toNat : Int) := by omega
      have HS : Hid (dgs s (t + 1) = true) := dgs_yes HG.out.1 (by omega)
      clear hbt h1 h2
      go_wp2
      go_roundw
      case rel => exact ⟨t + 1, by omega, by go_num, HS.out, by first | rfl | trivial⟩
      case measure => simp [intOf]; omega
    · have hib : ¬ (t : Int) < (s.size : Int) := by omega
      have hte : t = s.size := by omega
      have HD : Hid (E = 0) := by show E = 0; rw [HF.out, if_pos (by rw [← hte]; exact HG.out.1)]
      clear hte
      go_wp2
      go_ret
      exact ⟨by rw [HD.out]; rfl, rfl⟩

set_option maxHeartbeats 8000000 in
set_option maxRecDepth 100000 in
theorem signMay_5 (s : ByteArray) (w : World) (hs : s.size ≤ 1000000) :
    Calls Try.prog 25 #[.int .i64 5, .string s] w fun e w' => e = .returned (.int .i64 (sgE 5 s)) ∧ w' = w := by
  have hrange : sgl 5 = 1 ∧ sgh 5 = 64 := ⟨rfl, rfl⟩
  obtain ⟨E, hE⟩ : ∃ E, E = sgE 5 s := ⟨_, rfl⟩
  rw [← hE]
  unfold sgE at hE
  rw [hrange.1, hrange.2] at hE
  clear hrange
  by_cases c1 : s.size = 0
  · have i1 : ((s.size : Int) == 0) = true := by rw [c1]; rfl
    have HV : Hid (E = 6) := by rw [if_pos (by omega)] at hE; exact hE
    clear hE c1
    go_enter Try.func25, Try.ntmps25
    go_wp2
    go_ret
    exact ⟨by rw [HV.out]; rfl, rfl⟩
  have i1 : ((s.size : Int) == 0) = false := by rw [beq_eq_false_iff_ne]; omega
  by_cases c2 : 64 < s.size
  · have i2 : (64 : Int) < (s.size : Int) := by omega
    have HV : Hid (E = 6) := by rw [if_pos (by omega)] at hE; exact hE
    clear hE c2
    go_enter Try.func25, Try.ntmps25
    go_wp2
    go_ret
    exact ⟨by rw [HV.out]; rfl, rfl⟩
  have i2 : ¬ (64 : Int) < (s.size : Int) := by omega
  have HF : Hid (E = if dgs s s.size = true then 0 else 11) := by rw [if_neg (by omega)] at hE; exact hE
  clear hE c1 
  go_enter Try.func25, Try.ntmps25
  go_wp2
  go_loopw [5] (fun vi wr => ∃ (t : Nat), t ≤ s.size ∧ vi = .int .i64 (t : Nat) ∧ Hid (dgs s t = true ∧ wr = w)) (fun vi _ => s.size - (intOf vi).toNat)
  case atStart => exact ⟨0, by omega, rfl, rfl, rfl⟩
  case round =>
    obtain ⟨t, ht, rfl, HG⟩ := hrel
    rename World => wr
    have hw : wr = w := HG.out.2
    subst hw
    by_cases hlt : t < s.size
    · have hib : (t : Int) < (s.size : Int) := by omega
      have hib0 : (0 : Int) ≤ (t : Int) := by omega
      have hbt := byt_at s t hlt
      by_cases h1 : byt s t < 48
      · have i4 : ((s[t]'hlt).toNat : Int) < 48 := by omega
        have HD : Hid (E = 11) := by show E = 11; rw [HF.out, if_neg (by rw [dgs_no (by omega) _ hlt]; decide)]
        clear hbt h1
        go_wp2
        go_ret
        exact ⟨by rw [HD.out]; rfl, rfl⟩
      have i4 : ¬ ((s[t]'hlt).toNat : Int) < 48 := by omega
      by_cases h2 : 57 < byt s t
      · have i5 : (57 : Int) < ((s[t]'hlt).toNat : Int) := by omega
        have HD : Hid (E = 11) := by show E = 11; rw [HF.out, if_neg (by rw [dgs_no (by omega) _ hlt]; decide)]
        clear hbt h1 h2
        go_wp2
        go_ret
        exact ⟨by rw [HD.out]; rfl, rfl⟩
      have i5 : ¬ (57 : Int) < ((s[t]'hlt).toNat : Int) := by omega
      have HS : Hid (dgs s (t + 1) = true) := dgs_yes HG.out.1 (by omega)
      clear hbt h1 h2
      go_wp2
      go_roundw
      case rel => exact ⟨t + 1, by omega, by go_num, HS.out, by first | rfl | trivial⟩
      case measure => simp [intOf]; omega
    · have hib : ¬ (t : Int) < (s.size : Int) := by omega
      have hte : t = s.size := by omega
      have HD : Hid (E = 0) := by show E = 0; rw [HF.out, if_pos (by rw [← hte]; exact HG.out.1)]
      clear hte
      go_wp2
      go_ret
      exact ⟨by rw [HD.out]; rfl, rfl⟩

set_option maxHeartbeats 8000000 in
set_option maxRecDepth 100000 in
theorem signMay_no {k : Int} (hk : k < 1 ∨ 5 < k) (s : ByteArray) (w : World) :
    Calls Try.prog 25 #[.int .i64 k, .string s] w fun e w' => e = .returned (.int .i64 13) ∧ w' = w := by
  by_cases h : k < 1
  · clear hk
    go_enter Try.func25, Try.ntmps25
    go_wp2
    go_ret
    exact ⟨rfl, rfl⟩
  · have h5 : 5 < k := by omega
    clear hk
    go_enter Try.func25, Try.ntmps25
    go_wp2
    go_ret
    exact ⟨rfl, rfl⟩
/-- What is said of a kind and a text. -/
def sgM (k : Int) (s : ByteArray) : Int := if k < 1 ∨ 5 < k then 13 else sgE k.toNat s
theorem signMay_any (k : Int) (s : ByteArray) (w : World) (hs : s.size ≤ 1000000) :
    Calls Try.prog 25 #[.int .i64 k, .string s] w fun e w' => e = .returned (.int .i64 (sgM k s)) ∧ w' = w := by
  unfold sgM
  by_cases h : k < 1 ∨ 5 < k
  · rw [if_pos h]; exact signMay_no h s w
  · rw [if_neg h]
    have h5 : k = 1 ∨ k = 2 ∨ k = 3 ∨ k = 4 ∨ k = 5 := by omega
    rcases h5 with rfl | rfl | rfl | rfl | rfl
    · exact signMay_1 s w hs
    · exact signMay_2 s w hs
    · exact signMay_3 s w hs
    · exact signMay_4 s w hs
    · exact signMay_5 s w hs
end Go.Proofs.Ytonjkpakbmbafaa
