/- A field's calls, gone on: products, powers, what undoes a product. -/
import Derived.Test.YtcgmllamiaflcaaZB2
namespace Go.Proofs.Ytcgmllamiaflcaa
open Go.RowKit

theorem lg_cell {D : FD} (F : Fld D) {g : Nat → Value} (h : Tab D.q D.p D.m D.low D.gen D.st g) (x : Nat) (hx : x < D.q) (h0 : x ≠ 0) : g (69 + x) = .int .i64 (D.lg x : Nat) := by
  have hl := F.lg_is x hx h0
  have := h.pows.log (D.lg x) hl.1
  rw [hl.2] at this
  exact this

set_option maxHeartbeats 2000000 in
theorem mul_any {F T : Nat} {D : FD} (hD : D ∈ fieldsL) {g : Nat → Value} {w : World} (h : FAt F T D g w) (a b : Int) :
    Calls Try.prog 20 #[.pointer (some ⟨F, 0, none⟩), .int .i64 a, .int .i64 b] w fun e w' => e = .returned (.int .i64 (D.mulZ a b)) ∧ ∃ n, w' = w.drewN n := by
  have hp := h.ptr
  have hq := (fld hD).q64
  have HF : Hid (FAt F T D g w) := h
  have HL : Hid (Fld D ∧ D ∈ fieldsL) := ⟨fld hD, hD⟩
  clear h hD
  by_cases ha : D.has a = true
  · by_cases hb : D.has b = true
    · obtain ⟨x, rfl, hx⟩ := has_nat ha
      obtain ⟨y, rfl, hy⟩ := has_nat hb
      by_cases hx0 : x = 0
      · have hz : ((x : Int) == 0) = true := by rw [hx0]; rfl
        have HV : Hid (D.mulZ x y = 0) := by show D.mulZ x y = _; rw [FD.mulZ, if_pos ⟨ha, hb⟩]; simp [FD.mul, hx0]
        clear hx0
        go_enter Try.func20, Try.ntmps20
        go_wp2_with (go_at_call 37; refine (has_any HF.out _).mono ?_; rintro e w' ⟨rfl, rfl⟩)
        go_ret
        exact ⟨ret_int (by rw [HV.out]), 0, rfl⟩
      by_cases hy0 : y = 0
      · have hz : ((x : Int) == 0) = false := by rw [beq_eq_false_iff_ne]; exact_mod_cast hx0
        have hz' : ((y : Int) == 0) = true := by rw [hy0]; rfl
        have HV : Hid (D.mulZ x y = 0) := by show D.mulZ x y = _; rw [FD.mulZ, if_pos ⟨ha, hb⟩]; simp [FD.mul, hy0]
        clear hx0 hy0
        go_enter Try.func20, Try.ntmps20
        go_wp2_with (go_at_call 37; refine (has_any HF.out _).mono ?_; rintro e w' ⟨rfl, rfl⟩)
        go_ret
        exact ⟨ret_int (by rw [HV.out]), 0, rfl⟩
      have hz : ((x : Int) == 0) = false := by rw [beq_eq_false_iff_ne]; exact_mod_cast hx0
      have hz' : ((y : Int) == 0) = false := by rw [beq_eq_false_iff_ne]; exact_mod_cast hy0
      have hcx : w.cell? ⟨T, 69 + x, none⟩ = some (.int .i64 (D.lg x : Nat)) := by rw [HF.out.row.cell _ (by omega), lg_cell HL.out.1 HF.out.tab x hx hx0]
      have hcy : w.cell? ⟨T, 69 + y, none⟩ = some (.int .i64 (D.lg y : Nat)) := by rw [HF.out.row.cell _ (by omega), lg_cell HL.out.1 HF.out.tab y hy hy0]
      have hlx := (HL.out.1.lg_is x hx hx0).1
      have hly := (HL.out.1.lg_is y hy hy0).1
      have HV : Hid (D.mulZ x y = (again D.st ((((D.lg x : Nat) : Int) + ((D.lg y : Nat) : Int)) % ((D.q - 1 : Nat) : Int)).toNat 1 : Nat)) := by
        show D.mulZ x y = _
        rw [FD.mulZ, if_pos ⟨ha, hb⟩, FD.mul, if_neg (by omega)]
        rfl
      have HC : Hid (∀ n, Calls Try.prog 39 #[.pointer (some ⟨T, 0, none⟩), .int .i64 (((D.lg x : Nat) : Int) + ((D.lg y : Nat) : Int))] (w.drewN n) fun e w' => e = .returned (.int .i64 (D.mulZ x y)) ∧ ∃ m, w' = (w.drewN n).drewN m) := by
        intro n; rw [HV.out]; exact power_any HL.out.2 (HF.out.drewN n) _ (by omega) (by omega)
      clear hx0 hy0 HV
      go_enter Try.func20, Try.ntmps20
      go_wp2_with (go_at_call 37; refine (has_any HF.out _).mono ?_; rintro e w' ⟨rfl, rfl⟩)
      go_quiet ((go_at_call 39; exact Calls.quiet_of (HC.out _)))
      go_wp2
      go_ret
      exact ⟨rfl, _, rfl⟩
    · have hb' : D.has b = false := by simpa using hb
      have HV : Hid (D.mulZ a b = -1) := by show D.mulZ a b = _; rw [FD.mulZ, if_neg (by simp [hb'])]
      clear hb
      go_enter Try.func20, Try.ntmps20
      go_wp2_with (go_at_call 37; refine (has_any HF.out _).mono ?_; rintro e w' ⟨rfl, rfl⟩)
      go_ret
      exact ⟨ret_int (by rw [HV.out]), 0, rfl⟩
  · have ha' : D.has a = false := by simpa using ha
    have HV : Hid (D.mulZ a b = -1) := by show D.mulZ a b = _; rw [FD.mulZ, if_neg (by simp [ha'])]
    clear ha
    go_enter Try.func20, Try.ntmps20
    go_wp2_with (go_at_call 37; refine (has_any HF.out _).mono ?_; rintro e w' ⟨rfl, rfl⟩)
    go_ret
    exact ⟨ret_int (by rw [HV.out]), 0, rfl⟩

set_option maxHeartbeats 2000000 in
theorem pow_any {F T : Nat} {D : FD} (hD : D ∈ fieldsL) {g : Nat → Value} {w : World} (h : FAt F T D g w) (a k : Int) (hk1 : -9223372036854775808 ≤ k) (hk2 : k ≤ 9223372036854775807) :
    Calls Try.prog 71 #[.pointer (some ⟨F, 0, none⟩), .int .i64 a, .int .i64 k] w fun e w' => e = .returned (.int .i64 (D.powZ a k)) ∧ ∃ n, w' = w.drewN n := by
  have hp := h.ptr
  have hq := (fld hD).q64
  have hq2 := (fld hD).q2
  have hc0 : w.cell? ⟨T, 0, none⟩ = some (.int .i64 D.q) := by rw [h.row.cell 0 (by omega), h.tab.sum.c0]
  have HF : Hid (FAt F T D g w) := h
  have HL : Hid (Fld D ∧ D ∈ fieldsL) := ⟨fld hD, hD⟩
  clear h hD
  by_cases ha : D.has a = true
  · by_cases hk : k = 0
    · have hz : (k == 0) = true := by rw [hk]; rfl
      have HV : Hid (D.powZ a k = 1) := by show D.powZ a k = _; rw [FD.powZ, if_neg (by simp [ha]), if_pos hk]
      clear hk
      go_enter Try.func71, Try.ntmps71
      go_wp2_with (go_at_call 37; refine (has_any HF.out _).mono ?_; rintro e w' ⟨rfl, rfl⟩)
      go_ret
      exact ⟨ret_int (by rw [HV.out]), 0, rfl⟩
    have hkz : (k == 0) = false := by rw [beq_eq_false_iff_ne]; exact hk
    by_cases ha0 : a = 0
    · have hz : (a == 0) = true := by rw [ha0]; rfl
      by_cases hneg : k < 0
      · have HV : Hid (D.powZ a k = -1) := by show D.powZ a k = _; rw [FD.powZ, if_neg (by simp [ha]), if_neg hk, if_pos ha0, if_pos hneg]
        clear ha0 hk
        go_enter Try.func71, Try.ntmps71
        go_wp2_with (go_at_call 37; refine (has_any HF.out _).mono ?_; rintro e w' ⟨rfl, rfl⟩)
        go_ret
        exact ⟨ret_int (by rw [HV.out]), 0, rfl⟩
      · have HV : Hid (D.powZ a k = 0) := by show D.powZ a k = _; rw [FD.powZ, if_neg (by simp [ha]), if_neg hk, if_pos ha0, if_neg hneg]
        clear ha0 hk
        go_enter Try.func71, Try.ntmps71
        go_wp2_with (go_at_call 37; refine (has_any HF.out _).mono ?_; rintro e w' ⟨rfl, rfl⟩)
        go_ret
        exact ⟨ret_int (by rw [HV.out]), 0, rfl⟩
    obtain ⟨x, rfl, hx⟩ := has_nat ha
    have hx0 : x ≠ 0 := by intro e; exact ha0 (by rw [e]; rfl)
    have hz : ((x : Int) == 0) = false := by rw [beq_eq_false_iff_ne]; exact ha0
    have hcx : w.cell? ⟨T, 69 + x, none⟩ = some (.int .i64 (D.lg x : Nat)) := by rw [HF.out.row.cell _ (by omega), lg_cell HL.out.1 HF.out.tab x hx hx0]
    have hlx := (HL.out.1.lg_is x hx hx0).1
    obtain ⟨r, hr, hrq⟩ : ∃ r : Nat, k % ((D.q : Int) - 1) = r ∧ r < D.q - 1 := by
      have h1 := Int.emod_nonneg k (show (D.q : Int) - 1 ≠ 0 from by omega)
      have h2 := Int.emod_lt_of_pos k (show 0 < (D.q : Int) - 1 from by omega)
      exact ⟨(k % ((D.q : Int) - 1)).toNat, by omega, by omega⟩
    have h1 : D.lg x * r ≤ 64 * 64 := Nat.mul_le_mul (by omega) (by omega)
    have h4 : ((D.lg x : Nat) : Int) * (r : Int) ≤ 4096 := by rw [← Int.natCast_mul]; omega
    have h5 : 0 ≤ ((D.lg x : Nat) : Int) * (r : Int) := by rw [← Int.natCast_mul]; omega
    have HR : Hid (∀ w1, Calls Try.prog 64 #[.int .i64 k, .int .i64 ((D.q : Int) - 1)] w1 fun e w' => e = .returned (.int .i64 (r : Int)) ∧ w' = w1) := by
      intro w1; rw [← hr]; exact remainder_any _ _ _ (by omega) (by omega) hk1 hk2
    have HV : Hid (D.powZ x k = (again D.st ((((D.lg x : Nat) : Int) * (r : Int)) % ((D.q - 1 : Nat) : Int)).toNat 1 : Nat)) := by
      show D.powZ x k = _
      rw [FD.powZ, if_neg (by simp [ha]), if_neg hk, if_neg ha0, FD.pw, show ((D.q - 1 : Nat) : Int) = (D.q : Int) - 1 from by omega, hr, ← Int.natCast_mul, show (D.q : Int) - 1 = ((D.q - 1 : Nat) : Int) from by omega]
      rfl
    have HC : Hid (∀ n, Calls Try.prog 39 #[.pointer (some ⟨T, 0, none⟩), .int .i64 (((D.lg x : Nat) : Int) * (r : Int))] (w.drewN n) fun e w' => e = .returned (.int .i64 (D.powZ x k)) ∧ ∃ m, w' = (w.drewN n).drewN m) := by
      intro n; rw [HV.out]; exact power_any HL.out.2 (HF.out.drewN n) _ (by omega) (by omega)
    clear hx0 ha0 HV hr hk
    go_enter Try.func71, Try.ntmps71
    go_wp2_with (go_at_call 37; refine (has_any HF.out _).mono ?_; rintro e w' ⟨rfl, rfl⟩)
    go_quiet (first | (go_at_call 64; exact Calls.quiet_of_same (HR.out _)) | (go_at_call 39; exact Calls.quiet_of (HC.out _)))
    go_wp2
    go_ret
    exact ⟨rfl, _, rfl⟩
  · have ha' : D.has a = false := by simpa using ha
    have HV : Hid (D.powZ a k = -1) := by show D.powZ a k = _; rw [FD.powZ, if_pos ha']
    clear ha
    go_enter Try.func71, Try.ntmps71
    go_wp2_with (go_at_call 37; refine (has_any HF.out _).mono ?_; rintro e w' ⟨rfl, rfl⟩)
    go_ret
    exact ⟨ret_int (by rw [HV.out]), 0, rfl⟩

theorem inv_any {F T : Nat} {D : FD} (hD : D ∈ fieldsL) {g : Nat → Value} {w : World} (h : FAt F T D g w) (a : Int) :
    Calls Try.prog 66 #[.pointer (some ⟨F, 0, none⟩), .int .i64 a] w fun e w' => e = .returned (.int .i64 (D.powZ a (-1))) ∧ ∃ n, w' = w.drewN n := by
  have HF : Hid (FAt F T D g w) := h
  have HD : Hid (D ∈ fieldsL) := hD
  clear h hD
  go_enter Try.func66, Try.ntmps66
  go_wp2_with fail
  refine (pow_any HD.out HF.out a (-1) (by omega) (by omega)).mono ?_
  rintro e w' ⟨rfl, n, rfl⟩
  go_wp2
  go_ret
  exact ⟨rfl, n, rfl⟩
end Go.Proofs.Ytcgmllamiaflcaa
