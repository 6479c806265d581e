/- A field's calls, gone on: Frobenius, traces, norms. -/
import Derived.Test.YtillljojdnofgaaZB3
import Derived.Test.YtillljojdnofgaaZR5
namespace Go.Proofs.Ytillljojdnofgaa
open Go.RowKit

theorem powZ_frob {D : FD} (hD : D ∈ fieldsL) {z : Nat} (hz : z < D.q) : D.powZ z D.p = (D.frob1 z : Nat) := by
  have F := fld hD
  have hp := F.p2
  rw [FD.powZ, if_neg (by simp [nat_has hz]), if_neg (by omega)]
  unfold FD.frob1
  by_cases h0 : z = 0
  · rw [if_pos (by omega), if_neg (by omega), if_pos h0]; rfl
  · rw [if_neg (by omega), if_neg h0, ← Int.natCast_emod, Int.toNat_natCast, Int.toNat_natCast]
    unfold FD.pw
    rw [Nat.mul_mod, Nat.mod_mod, ← Nat.mul_mod]

set_option maxHeartbeats 2000000 in
theorem frob_any {F T : Nat} {D : FD} (hD : D ∈ fieldsL) {g : Nat → Value} {w : World} (h : FAt F T D g w) (a k : Int) (hk1 : -9223372036854775808 ≤ k) (hk2 : k ≤ 9223372036854775807) :
    Calls Try.prog 29 #[.pointer (some ⟨F, 0, none⟩), .int .i64 a, .int .i64 k] w fun e w' => e = .returned (.int .i64 (D.frobZ a k)) ∧ ∃ n, w' = w.drewN n := by
  have hp := h.ptr
  have hc2 : w.cell? ⟨T, 2, none⟩ = some (.int .i64 D.m) := by rw [h.row.cell 2 (by omega), h.tab.c2]
  have hc1 : w.cell? ⟨T, 1, none⟩ = some (.int .i64 D.p) := by rw [h.row.cell 1 (by omega), h.tab.sum.c1]
  have hm1 := (fld hD).m1
  have hm6 := (fld hD).m6
  have hp64 := (fld hD).p64
  have HF : Hid (FAt F T D g w ∧ D ∈ fieldsL) := ⟨h, hD⟩
  clear h hD
  by_cases ha : D.has a = true
  · obtain ⟨x, rfl, hx⟩ := has_nat ha
    obtain ⟨r, hr, hrq⟩ : ∃ r : Nat, k % (D.m : Int) = r ∧ r < D.m := by
      have h1 := Int.emod_nonneg k (show (D.m : Int) ≠ 0 from by omega)
      have h2 := Int.emod_lt_of_pos k (show 0 < (D.m : Int) from by omega)
      exact ⟨(k % (D.m : Int)).toNat, by omega, by omega⟩
    have HV : Hid (D.frobZ x k = (again D.frob1 r x : Nat)) := by
      show D.frobZ x k = _
      rw [FD.frobZ, if_pos ha, hr]; rfl
    have HR : Hid (∀ w1, Calls Try.prog 63 #[.int .i64 k, .int .i64 (D.m : Int)] w1 fun e w' => e = .returned (.int .i64 (r : Int)) ∧ w' = w1) := by
      intro w1; rw [← hr]; exact remainder_any _ _ _ (by omega) (by omega) hk1 hk2
    clear hr
    go_enter Try.func29, Try.ntmps29
    go_wp2_with (first | (go_at_call 61; refine (has_any HF.out.1 _).mono ?_; rintro e w' ⟨rfl, hw⟩; have hw := hw.symm; subst hw) | (go_at_call 63; refine (HR.out _).mono ?_; rintro e w' ⟨rfl, hw⟩; have hw := hw.symm; subst hw))
    go_loopw [1, 20] (fun y i wr => ∃ j z : Nat, j ≤ r ∧ z < D.q ∧ i = .int .i64 j ∧ y = .int .i64 z ∧ Hid (z = again D.frob1 j x) ∧ ∃ d, wr = w.drewN d) (fun _ i _ => r - (intOf i).toNat)
    case atStart => exact ⟨0, x, by omega, hx, rfl, rfl, rfl, 0, rfl⟩
    case round =>
      obtain ⟨j, z, hj, hz, rfl, rfl, HZ, d, rfl⟩ := hrel
      by_cases hjr : j < r
      · have HC : Hid (Calls Try.prog 28 #[.pointer (some ⟨F, 0, none⟩), .int .i64 z, .int .i64 D.p] (w.drewN d) fun e w' => e = .returned (.int .i64 (D.frob1 z : Nat)) ∧ ∃ n, w' = (w.drewN d).drewN n) := by
          have h := pow_any HF.out.2 (HF.out.1.drewN d) z D.p (by omega) (by omega)
          rw [powZ_frob HF.out.2 hz] at h; exact h
        have hfl := frob1_lt HF.out.2 z
        go_wp2_with fail
        refine HC.out.mono ?_
        rintro e w' ⟨rfl, n, rfl⟩
        go_wp2
        go_roundw
        case rel => exact ⟨j + 1, D.frob1 z, by omega, hfl, by go_num, rfl, by rw [HZ.out]; rfl, _, by first | rfl | rw [World.drewN_drewN]⟩
        case measure => simp [intOf]; omega
      · have HE : Hid (z = again D.frob1 r x) := by show _ = _; rw [HZ.out, show j = r from by omega]
        go_wp2
        go_ret
        exact ⟨ret_int (by rw [HV.out, HE.out]), _, rfl⟩
  · have ha' : D.has a = false := by simpa using ha
    have HV : Hid (D.frobZ a k = -1) := by show _ = _; rw [FD.frobZ, if_neg (by simp [ha'])]
    clear ha
    go_enter Try.func29, Try.ntmps29
    go_wp2_with (go_at_call 61; refine (has_any HF.out.1 _).mono ?_; rintro e w' ⟨rfl, rfl⟩)
    go_ret
    exact ⟨ret_int (by rw [HV.out]), 0, rfl⟩

set_option maxHeartbeats 2000000 in
theorem trace_any {F T : Nat} {D : FD} (hD : D ∈ fieldsL) {g : Nat → Value} {w : World} (h : FAt F T D g w) (a : Int) :
    Calls Try.prog 32 #[.pointer (some ⟨F, 0, none⟩), .int .i64 a] w fun e w' => e = .returned (.int .i64 (D.traceZ a)) ∧ ∃ n, w' = w.drewN n := by
  have hp := h.ptr
  have hc2 : w.cell? ⟨T, 2, none⟩ = some (.int .i64 D.m) := by rw [h.row.cell 2 (by omega), h.tab.c2]
  have hm1 := (fld hD).m1
  have hm6 := (fld hD).m6
  have HF : Hid (FAt F T D g w ∧ D ∈ fieldsL) := ⟨h, hD⟩
  clear h hD
  obtain ⟨t, ht⟩ : ∃ t : Nat → Int, t = fun j => if D.has a = true then ((D.traceTo a.toNat j : Nat) : Int) else if j = 0 then 0 else -1 := ⟨_, rfl⟩
  have HT : Hid (t 0 = 0 ∧ D.traceZ a = t D.m ∧ ∀ j : Nat, j < D.m → D.addZ (t j) (D.frobZ a j) = t (j + 1)) := by
    rw [ht]
    refine ⟨?_, ?_, ?_⟩
    · show (if D.has a = true then ((D.traceTo a.toNat 0 : Nat) : Int) else if 0 = 0 then 0 else -1) = 0
      split <;> rfl
    · show D.traceZ a = if D.has a = true then ((D.traceTo a.toNat D.m : Nat) : Int) else if D.m = 0 then 0 else -1
      rw [FD.traceZ]; split
      · rfl
      · rw [if_neg (by omega)]
    · intro j hj
      show D.addZ (if D.has a = true then ((D.traceTo a.toNat j : Nat) : Int) else if j = 0 then 0 else -1) (D.frobZ a j) = if D.has a = true then ((D.traceTo a.toNat (j + 1) : Nat) : Int) else if j + 1 = 0 then 0 else -1
      by_cases ha : D.has a = true
      · obtain ⟨x, rfl, hx⟩ := has_nat ha
        rw [if_pos ha, if_pos ha, frobZ_nat ha hj, Int.toNat_natCast, addZ_nat (fld HF.out.2) (traceTo_lt HF.out.2 x hx j) (frob_lt HF.out.2 x hx j)]; rfl
      · have : D.frobZ a j = -1 := by rw [FD.frobZ, if_neg ha]
        have hm : D.has (-1) = false := by simp [FD.has]
        rw [if_neg ha, if_neg ha, this, FD.addZ, if_neg (by rw [hm]; simp), if_neg (by omega)]
  clear ht
  go_enter Try.func32, Try.ntmps32
  go_wp2
  go_loopw [5, 14] (fun s i wr => ∃ j : Nat, j ≤ D.m ∧ i = .int .i64 j ∧ s = .int .i64 (t j) ∧ ∃ d, wr = w.drewN d) (fun _ i _ => D.m - (intOf i).toNat)
  case atStart => exact ⟨0, by omega, rfl, by rw [HT.out.1], 0, rfl⟩
  case round =>
    obtain ⟨j, hj, rfl, rfl, d, rfl⟩ := hrel
    by_cases hjm : j < D.m
    · have HE : Hid (D.addZ (t j) (D.frobZ a j) = t (j + 1)) := HT.out.2.2 j hjm
      go_wp2_with fail
      refine (frob_any HF.out.2 (HF.out.1.drewN d) a j (by omega) (by omega)).mono ?_
      rintro e w' ⟨rfl, n, rfl⟩
      go_wp2_with fail
      refine (add_any HF.out.2 (by first | exact HF.out.1.drewN _ | exact (HF.out.1.drewN d).drewN n) _ _).mono ?_
      rintro e w' ⟨rfl, n2, rfl⟩
      go_wp2
      go_roundw
      case rel => exact ⟨j + 1, by omega, by go_num, by rw [HE.out], _, by first | rfl | rw [World.drewN_drewN] | rw [World.drewN_drewN, World.drewN_drewN]⟩
      case measure => simp [intOf]; omega
    · have HE : Hid (j = D.m) := by show j = D.m; omega
      go_wp2
      go_ret
      exact ⟨ret_int (by rw [HT.out.2.1, HE.out]), _, rfl⟩

set_option maxHeartbeats 2000000 in
theorem norm_any {F T : Nat} {D : FD} (hD : D ∈ fieldsL) {g : Nat → Value} {w : World} (h : FAt F T D g w) (a : Int) :
    Calls Try.prog 33 #[.pointer (some ⟨F, 0, none⟩), .int .i64 a] w fun e w' => e = .returned (.int .i64 (D.normZ a)) ∧ ∃ n, w' = w.drewN n := by
  have hp := h.ptr
  have hc2 : w.cell? ⟨T, 2, none⟩ = some (.int .i64 D.m) := by rw [h.row.cell 2 (by omega), h.tab.c2]
  have hm1 := (fld hD).m1
  have hm6 := (fld hD).m6
  have HF : Hid (FAt F T D g w ∧ D ∈ fieldsL) := ⟨h, hD⟩
  clear h hD
  obtain ⟨t, ht⟩ : ∃ t : Nat → Int, t = fun j => if D.has a = true then ((D.normTo a.toNat j : Nat) : Int) else if j = 0 then 1 else -1 := ⟨_, rfl⟩
  have HT : Hid (t 0 = 1 ∧ D.normZ a = t D.m ∧ ∀ j : Nat, j < D.m → D.mulZ (t j) (D.frobZ a j) = t (j + 1)) := by
    rw [ht]
    refine ⟨?_, ?_, ?_⟩
    · show (if D.has a = true then ((D.normTo a.toNat 0 : Nat) : Int) else if 0 = 0 then 1 else -1) = 1
      split <;> rfl
    · show D.normZ a = if D.has a = true then ((D.normTo a.toNat D.m : Nat) : Int) else if D.m = 0 then 1 else -1
      rw [FD.normZ]; split
      · rfl
      · rw [if_neg (by omega)]
    · intro j hj
      show D.mulZ (if D.has a = true then ((D.normTo a.toNat j : Nat) : Int) else if j = 0 then 1 else -1) (D.frobZ a j) = if D.has a = true then ((D.normTo a.toNat (j + 1) : Nat) : Int) else if j + 1 = 0 then 1 else -1
      by_cases ha : D.has a = true
      · obtain ⟨x, rfl, hx⟩ := has_nat ha
        rw [if_pos ha, if_pos ha, frobZ_nat ha hj, Int.toNat_natCast, mulZ_nat (fld HF.out.2) (normTo_lt HF.out.2 x j) (frob_lt HF.out.2 x hx j)]; rfl
      · have : D.frobZ a j = -1 := by rw [FD.frobZ, if_neg ha]
        have hm : D.has (-1) = false := by simp [FD.has]
        rw [if_neg ha, if_neg ha, this, FD.mulZ, if_neg (by rw [hm]; simp), if_neg (by omega)]
  clear ht
  go_enter Try.func33, Try.ntmps33
  go_wp2
  go_loopw [5, 14] (fun s i wr => ∃ j : Nat, j ≤ D.m ∧ i = .int .i64 j ∧ s = .int .i64 (t j) ∧ ∃ d, wr = w.drewN d) (fun _ i _ => D.m - (intOf i).toNat)
  case atStart => exact ⟨0, by omega, rfl, by rw [HT.out.1], 0, rfl⟩
  case round =>
    obtain ⟨j, hj, rfl, rfl, d, rfl⟩ := hrel
    by_cases hjm : j < D.m
    · have HE : Hid (D.mulZ (t j) (D.frobZ a j) = t (j + 1)) := HT.out.2.2 j hjm
      go_wp2_with fail
      refine (frob_any HF.out.2 (HF.out.1.drewN d) a j (by omega) (by omega)).mono ?_
      rintro e w' ⟨rfl, n, rfl⟩
      go_wp2_with fail
      refine (mul_any HF.out.2 (by first | exact HF.out.1.drewN _ | exact (HF.out.1.drewN d).drewN n) _ _).mono ?_
      rintro e w' ⟨rfl, n2, rfl⟩
      go_wp2
      go_roundw
      case rel => exact ⟨j + 1, by omega, by go_num, by rw [HE.out], _, by first | rfl | rw [World.drewN_drewN] | rw [World.drewN_drewN, World.drewN_drewN]⟩
      case measure => simp [intOf]; omega
    · have HE : Hid (j = D.m) := by show j = D.m; omega
      go_wp2
      go_ret
      exact ⟨ret_int (by rw [HT.out.2.1, HE.out]), _, rfl⟩
end Go.Proofs.Ytillljojdnofgaa
