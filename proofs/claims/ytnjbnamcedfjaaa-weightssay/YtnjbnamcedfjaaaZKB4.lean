/- Weights: the law's walk of Griesmer's bound (printed by make/kb4.py). -/
import Derived.Test.YtnjbnamcedfjaaaZKB3
namespace Go.Proofs.Ytnjbnamcedfjaaa
open Go.RowKit Go.Sort

set_option maxHeartbeats 2000000 in
set_option maxRecDepth 100000 in
theorem lg_none (q : Int) (h : ∀ D ∈ fieldsL, (D.q : Int) ≠ q) (k d : Int) (w : World) :
    Calls Try.prog 15 #[.int .i64 q, .int .i64 k, .int .i64 d] w fun e w' => e = .returned (.bool true) ∧ Below w.heap.size w w' := by
  have HN : Hid (∀ D ∈ fieldsL, (D.q : Int) ≠ q) := h
  clear h
  go_enter Try.func15, Try.ntmps15
  go_wp2_with fail
  refine (rfield_none q w HN.out).mono ?_
  rintro e w1 ⟨rfl, hb1⟩
  have HW : Hid (Below w.heap.size w w1) := hb1
  clear hb1
  unfold rf0
  go_wp2_with fail
  refine (gri_none q HN.out k d _).mono ?_
  rintro e w2 ⟨rfl, hb⟩
  have H2 : Hid (Below w.heap.size w w2) := bel_up' (by first | exact HW.out | exact HW.out.alloc HW.out.size _) hb
  clear hb
  go_wp2
  go_loopw [11, 2, 12] (fun vs vd vi wr => vs = .int .i64 0 ∧ vd = .int .i64 d ∧ vi = .int .i64 0 ∧ wr = w2) (fun _ _ _ _ => 0)
  case atStart => exact ⟨rfl, rfl, rfl, rfl⟩
  case round =>
    obtain ⟨rfl, rfl, rfl, hw⟩ := hrel
    have hw := hw.symm
    subst hw
    by_cases hk0 : 0 < k
    · go_wp2_with fail
      refine (num_err 1 (by decide) 0 _).mono ?_
      rintro e w3 ⟨rfl, hw⟩
      have hw := hw.symm
      subst hw
      go_wp2
      go_ret
      exact ⟨rfl, H2.out⟩
    · go_wp2_with fail
      refine (num_err 1 (by decide) 0 _).mono ?_
      rintro e w3 ⟨rfl, hw⟩
      have hw := hw.symm
      subst hw
      go_wp2
      go_ret
      exact ⟨rfl, H2.out⟩

set_option maxHeartbeats 2000000 in
set_option maxRecDepth 100000 in
theorem lg_lim0 {D : FD} (hD : D ∈ fieldsL) (k d : Int) (h1 : k < 1) (w : World) :
    Calls Try.prog 15 #[.int .i64 D.q, .int .i64 k, .int .i64 d] w fun e w' => e = .returned (.bool true) ∧ Below w.heap.size w w' := by
  have HD : Hid (D ∈ fieldsL) := hD
  clear hD
  go_enter Try.func15, Try.ntmps15
  go_wp2_with fail
  refine (rfield_sl HD.out w).mono ?_
  rintro e w1 ⟨gm, cm, rfl, _, hb1⟩
  unfold rf
  have HW : Hid (Below w.heap.size w w1) := hb1
  clear hb1
  go_wp2_with fail
  refine (gri_lim0 HD.out k d (by omega) _).mono ?_
  rintro e w2 ⟨rfl, hb⟩
  have H2 : Hid (Below w.heap.size w w2) := bel_up' (by first | exact HW.out | exact HW.out.alloc HW.out.size _) hb
  clear hb
  go_wp2
  go_loopw [11, 2, 12] (fun vs vd vi wr => vs = .int .i64 0 ∧ vd = .int .i64 d ∧ vi = .int .i64 0 ∧ wr = w2) (fun _ _ _ _ => 0)
  case atStart => exact ⟨rfl, rfl, rfl, rfl⟩
  case round =>
    obtain ⟨rfl, rfl, rfl, hw⟩ := hrel
    have hw := hw.symm
    subst hw
    by_cases hk0 : 0 < k
    · go_wp2_with fail
      refine (num_err 4 (by decide) 0 _).mono ?_
      rintro e w3 ⟨rfl, hw⟩
      have hw := hw.symm
      subst hw
      go_wp2
      go_ret
      exact ⟨rfl, H2.out⟩
    · go_wp2_with fail
      refine (num_err 4 (by decide) 0 _).mono ?_
      rintro e w3 ⟨rfl, hw⟩
      have hw := hw.symm
      subst hw
      go_wp2
      go_ret
      exact ⟨rfl, H2.out⟩

set_option maxHeartbeats 2000000 in
set_option maxRecDepth 100000 in
theorem lg_lim1 {D : FD} (hD : D ∈ fieldsL) (k d : Int) (h1 : ¬ k < 1) (h2 : 64 < k) (w : World) :
    Calls Try.prog 15 #[.int .i64 D.q, .int .i64 k, .int .i64 d] w fun e w' => e = .returned (.bool true) ∧ Below w.heap.size w w' := by
  have HD : Hid (D ∈ fieldsL) := hD
  clear hD
  have h2b : k > 64 := h2
  go_enter Try.func15, Try.ntmps15
  go_wp2_with fail
  refine (rfield_sl HD.out w).mono ?_
  rintro e w1 ⟨gm, cm, rfl, _, hb1⟩
  unfold rf
  have HW : Hid (Below w.heap.size w w1) := hb1
  clear hb1
  go_wp2_with fail
  refine (gri_lim1 HD.out k d (by omega) (by omega) _).mono ?_
  rintro e w2 ⟨rfl, hb⟩
  have H2 : Hid (Below w.heap.size w w2) := bel_up' (by first | exact HW.out | exact HW.out.alloc HW.out.size _) hb
  clear hb
  go_wp2
  go_loopw [11, 2, 12] (fun vs vd vi wr => vs = .int .i64 0 ∧ vd = .int .i64 d ∧ vi = .int .i64 0 ∧ wr = w2) (fun _ _ _ _ => 0)
  case atStart => exact ⟨rfl, rfl, rfl, rfl⟩
  case round =>
    obtain ⟨rfl, rfl, rfl, hw⟩ := hrel
    have hw := hw.symm
    subst hw
    by_cases hk0 : 0 < k
    · go_wp2_with fail
      refine (num_err 4 (by decide) 0 _).mono ?_
      rintro e w3 ⟨rfl, hw⟩
      have hw := hw.symm
      subst hw
      go_wp2
      go_ret
      exact ⟨rfl, H2.out⟩
    · go_wp2_with fail
      refine (num_err 4 (by decide) 0 _).mono ?_
      rintro e w3 ⟨rfl, hw⟩
      have hw := hw.symm
      subst hw
      go_wp2
      go_ret
      exact ⟨rfl, H2.out⟩

set_option maxHeartbeats 2000000 in
set_option maxRecDepth 100000 in
theorem lg_lim2 {D : FD} (hD : D ∈ fieldsL) (k d : Int) (h1 : ¬ k < 1) (h2 : ¬ 64 < k) (h3 : d < 1) (w : World) :
    Calls Try.prog 15 #[.int .i64 D.q, .int .i64 k, .int .i64 d] w fun e w' => e = .returned (.bool true) ∧ Below w.heap.size w w' := by
  have HD : Hid (D ∈ fieldsL) := hD
  clear hD
  have h2b : ¬ k > 64 := h2
  go_enter Try.func15, Try.ntmps15
  go_wp2_with fail
  refine (rfield_sl HD.out w).mono ?_
  rintro e w1 ⟨gm, cm, rfl, _, hb1⟩
  unfold rf
  have HW : Hid (Below w.heap.size w w1) := hb1
  clear hb1
  go_wp2_with fail
  refine (gri_lim2 HD.out k d (by omega) (by omega) (by omega) _).mono ?_
  rintro e w2 ⟨rfl, hb⟩
  have H2 : Hid (Below w.heap.size w w2) := bel_up' (by first | exact HW.out | exact HW.out.alloc HW.out.size _) hb
  clear hb
  go_wp2
  go_loopw [11, 2, 12] (fun vs vd vi wr => vs = .int .i64 0 ∧ vd = .int .i64 d ∧ vi = .int .i64 0 ∧ wr = w2) (fun _ _ _ _ => 0)
  case atStart => exact ⟨rfl, rfl, rfl, rfl⟩
  case round =>
    obtain ⟨rfl, rfl, rfl, hw⟩ := hrel
    have hw := hw.symm
    subst hw
    by_cases hk0 : 0 < k
    · go_wp2_with fail
      refine (num_err 4 (by decide) 0 _).mono ?_
      rintro e w3 ⟨rfl, hw⟩
      have hw := hw.symm
      subst hw
      go_wp2
      go_ret
      exact ⟨rfl, H2.out⟩
    · go_wp2_with fail
      refine (num_err 4 (by decide) 0 _).mono ?_
      rintro e w3 ⟨rfl, hw⟩
      have hw := hw.symm
      subst hw
      go_wp2
      go_ret
      exact ⟨rfl, H2.out⟩

set_option maxHeartbeats 2000000 in
set_option maxRecDepth 100000 in
theorem lg_lim3 {D : FD} (hD : D ∈ fieldsL) (k d : Int) (h1 : ¬ k < 1) (h2 : ¬ 64 < k) (h3 : ¬ d < 1) (h4 : 64 < d) (w : World) :
    Calls Try.prog 15 #[.int .i64 D.q, .int .i64 k, .int .i64 d] w fun e w' => e = .returned (.bool true) ∧ Below w.heap.size w w' := by
  have HD : Hid (D ∈ fieldsL) := hD
  clear hD
  have h2b : ¬ k > 64 := h2
  have h4b : d > 64 := h4
  go_enter Try.func15, Try.ntmps15
  go_wp2_with fail
  refine (rfield_sl HD.out w).mono ?_
  rintro e w1 ⟨gm, cm, rfl, _, hb1⟩
  unfold rf
  have HW : Hid (Below w.heap.size w w1) := hb1
  clear hb1
  go_wp2_with fail
  refine (gri_lim3 HD.out k d (by omega) (by omega) (by omega) (by omega) _).mono ?_
  rintro e w2 ⟨rfl, hb⟩
  have H2 : Hid (Below w.heap.size w w2) := bel_up' (by first | exact HW.out | exact HW.out.alloc HW.out.size _) hb
  clear hb
  go_wp2
  go_loopw [11, 2, 12] (fun vs vd vi wr => vs = .int .i64 0 ∧ vd = .int .i64 d ∧ vi = .int .i64 0 ∧ wr = w2) (fun _ _ _ _ => 0)
  case atStart => exact ⟨rfl, rfl, rfl, rfl⟩
  case round =>
    obtain ⟨rfl, rfl, rfl, hw⟩ := hrel
    have hw := hw.symm
    subst hw
    by_cases hk0 : 0 < k
    · go_wp2_with fail
      refine (num_err 4 (by decide) 0 _).mono ?_
      rintro e w3 ⟨rfl, hw⟩
      have hw := hw.symm
      subst hw
      go_wp2
      go_ret
      exact ⟨rfl, H2.out⟩
    · go_wp2_with fail
      refine (num_err 4 (by decide) 0 _).mono ?_
      rintro e w3 ⟨rfl, hw⟩
      have hw := hw.symm
      subst hw
      go_wp2
      go_ret
      exact ⟨rfl, H2.out⟩

set_option maxHeartbeats 2000000 in
set_option maxRecDepth 100000 in
theorem lg_ok {D : FD} (hD : D ∈ fieldsL) (k d : Nat) (hk : 1 ≤ k) (hk2 : k ≤ 64) (hd : 1 ≤ d) (hd2 : d ≤ 64) (w : World) :
    Calls Try.prog 15 #[.int .i64 D.q, .int .i64 (k : Nat), .int .i64 (d : Nat)] w fun e w' => e = .returned (.bool true) ∧ Below w.heap.size w w' := by
  have h1 : ¬ (k : Int) < 1 := by omega
  have h2 : ¬ (64 : Int) < (k : Int) := by omega
  have h2b : ¬ (k : Int) > 64 := by omega
  have h3 : ¬ (d : Int) < 1 := by omega
  have h4 : ¬ (64 : Int) < (d : Int) := by omega
  have h4b : ¬ (d : Int) > 64 := by omega
  have hq2 := (fld hD).q2
  have hq64 := (fld hD).q64
  have HD : Hid (D ∈ fieldsL) := hD
  clear hD
  go_enter Try.func15, Try.ntmps15
  go_wp2_with fail
  refine (rfield_sl HD.out w).mono ?_
  rintro e w1 ⟨gm, cm, rfl, _, hb1⟩
  unfold rf
  have HW : Hid (Below w.heap.size w w1) := hb1
  clear hb1
  go_wp2_with fail
  refine (gri_ok HD.out k d hk hk2 hd hd2 _).mono ?_
  rintro e w2 ⟨rfl, hb⟩
  have H2 : Hid (Below w.heap.size w w2) := bel_up' (by first | exact HW.out | exact HW.out.alloc HW.out.size _) hb
  clear hb
  obtain ⟨G, hG⟩ : ∃ G, G = gs D.q d k := ⟨_, rfl⟩
  rw [← hG]
  have HG : Hid (G = gs D.q d k) := hG
  clear hG
  go_wp2
  go_loopw [11, 2, 12] (fun vs vd vi wr => ∃ i s x : Nat, vs = .int .i64 (s : Nat) ∧ vd = .int .i64 (x : Nat) ∧ vi = .int .i64 (i : Nat) ∧ i ≤ k ∧ Hid (s = gs D.q d i ∧ x = gd D.q d i) ∧ wr = w2) (fun _ _ vi _ => k - (intOf vi).toNat)
  case atStart => exact ⟨0, 0, d, rfl, rfl, rfl, by omega, ⟨rfl, rfl⟩, rfl⟩
  case round =>
    obtain ⟨i, s, x, rfl, rfl, rfl, hi, HV, hw⟩ := hrel
    have hw := hw.symm
    subst hw
    by_cases hlt : i < k
    · have hib : (i : Int) < (k : Int) := by omega
      have hs : s ≤ 4096 := by
        rw [HV.out.1]
        exact Nat.le_trans (gs_le (by omega) i) (Nat.le_trans (Nat.mul_le_mul (show i ≤ 64 by omega) hd2) (by omega))
      have hx : x ≤ 64 := by rw [HV.out.2]; exact Nat.le_trans (gd_le (by omega) i) hd2
      obtain ⟨y, hy⟩ : ∃ y, y = (x + D.q - 1) / D.q := ⟨_, rfl⟩
      have HR : Hid (s + x = gs D.q d (i + 1) ∧ y = gd D.q d (i + 1)) := by
        refine ⟨?_, ?_⟩
        · show s + x = gs D.q d i + gd D.q d i; rw [HV.out.1, HV.out.2]
        · show y = (gd D.q d i + D.q - 1) / D.q; rw [hy, HV.out.2]
      have HC : Hid (∀ ww : World, Calls Try.prog 39 #[.int .i64 (x : Nat), .int .i64 (D.q : Nat)] ww fun e w' => e = .returned (.int .i64 (y : Nat)) ∧ w' = ww) := fun ww => by
        rw [hy]; exact rUp_any x D.q (by omega) (by omega) (by omega) ww
      clear hy
      go_wp2_with (go_at_call 39; refine (HC.out _).mono ?_; rintro e w2 ⟨rfl, hw⟩; have hw := hw.symm; subst hw)
      go_roundw
      case rel => exact ⟨i + 1, s + x, y, by go_num, rfl, by go_num, by omega, HR.out, by first | rfl | trivial⟩
      case measure => simp [intOf]; omega
    · have hib : ¬ (i : Int) < (k : Int) := by omega
      have hsG : s = G := by rw [HV.out.1, HG.out, show i = k by omega]
      subst hsG
      go_wp2_with fail
      refine (num_same (s : Nat) _).mono ?_
      rintro e w3 ⟨rfl, hw⟩
      have hw := hw.symm
      subst hw
      go_wp2
      go_ret
      exact ⟨rfl, H2.out⟩
/-- The law's griesmer, whatever it is given. -/
theorem lg_any (q k d : Int) (w : World) :
    Calls Try.prog 15 #[.int .i64 q, .int .i64 k, .int .i64 d] w fun e w' => e = .returned (.bool true) ∧ Below w.heap.size w w' := by
  by_cases hq : ∃ D ∈ fieldsL, (D.q : Int) = q
  · obtain ⟨D, hD, rfl⟩ := hq
    by_cases h1 : k < 1
    · exact lg_lim0 hD k d h1 w
    by_cases h2 : 64 < k
    · exact lg_lim1 hD k d h1 h2 w
    by_cases h3 : d < 1
    · exact lg_lim2 hD k d h1 h2 h3 w
    by_cases h4 : 64 < d
    · exact lg_lim3 hD k d h1 h2 h3 h4 w
    obtain ⟨k', rfl⟩ : ∃ k' : Nat, k = (k' : Int) := ⟨k.toNat, by omega⟩
    obtain ⟨d', rfl⟩ : ∃ d' : Nat, d = (d' : Int) := ⟨d.toNat, by omega⟩
    exact lg_ok hD k' d' (by omega) (by omega) (by omega) (by omega) w
  · exact lg_none q (fun D hD he => hq ⟨D, hD, he⟩) k d w
end Go.Proofs.Ytnjbnamcedfjaaa
