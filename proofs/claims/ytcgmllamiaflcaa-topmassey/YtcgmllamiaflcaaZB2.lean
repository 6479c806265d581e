/- A field's calls: sums, products, powers, logarithms. -/
import Derived.Test.YtcgmllamiaflcaaZB1
namespace Go.Proofs.Ytcgmllamiaflcaa
open Go.RowKit

def FD.addZ (D : FD) (a b : Int) : Int := if D.has a = true ∧ D.has b = true then (sumD D.p D.q a.toNat b.toNat : Nat) else -1
def FD.negZ (D : FD) (a : Int) : Int := if D.has a = true then (negD D.p D.q a.toNat : Nat) else -1
def FD.mulZ (D : FD) (a b : Int) : Int := if D.has a = true ∧ D.has b = true then (D.mul a.toNat b.toNat : Nat) else -1
def FD.powZ (D : FD) (a k : Int) : Int := if D.has a = false then -1 else if k = 0 then 1 else if a = 0 then (if k < 0 then -1 else 0) else (D.pw a.toNat (k % ((D.q - 1 : Nat) : Int)).toNat : Nat)
theorem has_nat {D : FD} {a : Int} (h : D.has a = true) : ∃ n : Nat, a = n ∧ n < D.q := by
  simp only [FD.has, decide_eq_true_eq] at h
  exact ⟨a.toNat, by omega, by omega⟩
theorem nat_has {D : FD} {n : Nat} (h : n < D.q) : D.has (n : Int) = true := by
  simp only [FD.has, decide_eq_true_eq]; omega

set_option maxHeartbeats 1000000 in
theorem add_any {F T : Nat} {D : FD} (hD : D ∈ fieldsL) {g : Nat → Value} {w : World} (h : FAt F T D g w) (a b : Int) :
    Calls Try.prog 19 #[.pointer (some ⟨F, 0, none⟩), .int .i64 a, .int .i64 b] w fun e w' => e = .returned (.int .i64 (D.addZ a b)) ∧ ∃ n, w' = w.drewN n := by
  have hp := h.ptr
  have hq := (fld hD).q64
  have HF : Hid (FAt F T D g w) := h
  have HL : Hid (Fld D ∧ Two D.p D.q) := ⟨fld hD, fld_two hD⟩
  clear h hD
  by_cases ha : D.has a = true
  · by_cases hb : D.has b = true
    · obtain ⟨x, rfl, hx⟩ := has_nat ha
      obtain ⟨y, rfl, hy⟩ := has_nat hb
      have HV : Hid (D.addZ x y = (sumD D.p D.q x y : Nat)) := by show D.addZ x y = _; rw [FD.addZ, if_pos ⟨ha, hb⟩]; rfl
      have HC : Hid (Calls Try.prog 38 #[.pointer (some ⟨T, 0, none⟩), .int .i64 x, .int .i64 y] w fun e w' => e = .returned (.int .i64 (sumD D.p D.q x y : Nat)) ∧ ∃ n, w' = w.drewN n) :=
        sum_any T D.p D.q x y w HL.out.1.p2 HL.out.1.p64 hq hx hy HL.out.2 (by rw [HF.out.row.cell 0 (by omega), HF.out.tab.sum.c0]) (by rw [HF.out.row.cell 1 (by omega), HF.out.tab.sum.c1])
      go_enter Try.func19, Try.ntmps19
      go_wp2_with (first | (go_at_call 37; refine (has_any HF.out _).mono ?_; rintro e w' ⟨rfl, hw⟩; have hw := hw.symm; subst hw) | (go_at_call 38; refine HC.out.mono ?_; rintro e w' ⟨rfl, n, rfl⟩))
      go_ret
      exact ⟨ret_int (by rw [HV.out]), _, rfl⟩
    · have hb' : D.has b = false := by simpa using hb
      have HV : Hid (D.addZ a b = -1) := by show D.addZ a b = _; rw [FD.addZ, if_neg (by simp [hb'])]
      clear hb
      go_enter Try.func19, Try.ntmps19
      go_wp2_with (go_at_call 37; refine (has_any HF.out _).mono ?_; rintro e w' ⟨rfl, rfl⟩)
      go_ret
      exact ⟨ret_int (by rw [HV.out]), 0, rfl⟩
  · have ha' : D.has a = false := by simpa using ha
    have HV : Hid (D.addZ a b = -1) := by show D.addZ a b = _; rw [FD.addZ, if_neg (by simp [ha'])]
    clear ha
    go_enter Try.func19, Try.ntmps19
    go_wp2_with (go_at_call 37; refine (has_any HF.out _).mono ?_; rintro e w' ⟨rfl, rfl⟩)
    go_ret
    exact ⟨ret_int (by rw [HV.out]), 0, rfl⟩

set_option maxHeartbeats 1000000 in
theorem neg_any {F T : Nat} {D : FD} (hD : D ∈ fieldsL) {g : Nat → Value} {w : World} (h : FAt F T D g w) (a : Int) :
    Calls Try.prog 41 #[.pointer (some ⟨F, 0, none⟩), .int .i64 a] w fun e w' => e = .returned (.int .i64 (D.negZ a)) ∧ ∃ n, w' = w.drewN n := by
  have hp := h.ptr
  have hq := (fld hD).q64
  have HF : Hid (FAt F T D g w) := h
  have HL : Hid (Fld D ∧ Two D.p D.q) := ⟨fld hD, fld_two hD⟩
  clear h hD
  by_cases ha : D.has a = true
  · obtain ⟨x, rfl, hx⟩ := has_nat ha
    have HV : Hid (D.negZ x = (negD D.p D.q x : Nat)) := by show D.negZ x = _; rw [FD.negZ, if_pos ha]; rfl
    have HC : Hid (Calls Try.prog 68 #[.pointer (some ⟨T, 0, none⟩), .int .i64 x] w fun e w' => e = .returned (.int .i64 (negD D.p D.q x : Nat)) ∧ ∃ n, w' = w.drewN n) :=
      opposite_any T D.p D.q x w HL.out.1.p2 HL.out.1.p64 hq hx HL.out.2 (by rw [HF.out.row.cell 0 (by omega), HF.out.tab.sum.c0]) (by rw [HF.out.row.cell 1 (by omega), HF.out.tab.sum.c1])
    go_enter Try.func41, Try.ntmps41
    go_wp2_with (first | (go_at_call 37; refine (has_any HF.out _).mono ?_; rintro e w' ⟨rfl, hw⟩; have hw := hw.symm; subst hw) | (go_at_call 68; refine HC.out.mono ?_; rintro e w' ⟨rfl, n, rfl⟩))
    go_ret
    exact ⟨ret_int (by rw [HV.out]), _, rfl⟩
  · have ha' : D.has a = false := by simpa using ha
    have HV : Hid (D.negZ a = -1) := by show D.negZ a = _; rw [FD.negZ, if_neg (by simp [ha'])]
    clear ha
    go_enter Try.func41, Try.ntmps41
    go_wp2_with (go_at_call 37; refine (has_any HF.out _).mono ?_; rintro e w' ⟨rfl, rfl⟩)
    go_ret
    exact ⟨ret_int (by rw [HV.out]), 0, rfl⟩

def FD.subZ (D : FD) (a b : Int) : Int := D.addZ a (D.negZ b)
theorem sub_any {F T : Nat} {D : FD} (hD : D ∈ fieldsL) {g : Nat → Value} {w : World} (h : FAt F T D g w) (a b : Int) :
    Calls Try.prog 22 #[.pointer (some ⟨F, 0, none⟩), .int .i64 a, .int .i64 b] w fun e w' => e = .returned (.int .i64 (D.subZ a b)) ∧ ∃ n, w' = w.drewN n := by
  have HN := hD
  have HF : Hid (FAt F T D g w) := h
  have HD : Hid (D ∈ fieldsL) := hD
  clear h hD HN
  go_enter Try.func22, Try.ntmps22
  go_wp2_with fail
  refine (neg_any HD.out HF.out b).mono ?_
  rintro e w' ⟨rfl, n1, rfl⟩
  go_wp2_with fail
  refine (add_any HD.out (HF.out.drewN n1) a _).mono ?_
  rintro e w' ⟨rfl, n2, rfl⟩
  go_wp2
  go_ret
  exact ⟨rfl, _, by first | rfl | rw [World.drewN_drewN]⟩

theorem remainder_any (k n : Int) (w : World) (h1 : 1 ≤ n) (h2 : n ≤ 64) (hk1 : -9223372036854775808 ≤ k) (hk2 : k ≤ 9223372036854775807) :
    Calls Try.prog 64 #[.int .i64 k, .int .i64 n] w fun e w' => e = .returned (.int .i64 (k % n)) ∧ w' = w := by
  have hb1 := Int.tmod_lt_of_pos k (show (0 : Int) < n from by omega)
  have hb2 := Int.lt_tmod_of_pos k (show (0 : Int) < n from by omega)
  have HV : Hid (k.tmod n % n = k % n) := by
    show k.tmod n % n = k % n
    rw [Int.tmod_def]
    exact Int.sub_mul_emod_self_left _ _ _
  by_cases hk : 0 ≤ k
  · have HW : Hid ((k % n + n) % n = k % n) := by show _ = _; rw [Int.add_emod_right, Int.emod_emod]
    have hb3 := Int.emod_nonneg k (show n ≠ 0 from by omega)
    have hb4 := Int.emod_lt_of_pos k (show 0 < n from by omega)
    clear hb1 hb2
    go_enter Try.func64, Try.ntmps64
    go_wp2
    go_ret
    exact ⟨ret_int (by rw [HW.out]), rfl⟩
  · go_enter Try.func64, Try.ntmps64
    go_wp2
    go_ret
    exact ⟨ret_int (by rw [HV.out]), rfl⟩

set_option maxHeartbeats 1000000 in
theorem power_any {F T : Nat} {D : FD} (hD : D ∈ fieldsL) {g : Nat → Value} {w : World} (h : FAt F T D g w) (k : Int) (hk1 : -9223372036854775808 ≤ k) (hk2 : k ≤ 9223372036854775807) :
    Calls Try.prog 39 #[.pointer (some ⟨T, 0, none⟩), .int .i64 k] w fun e w' => e = .returned (.int .i64 (again D.st (k % ((D.q - 1 : Nat) : Int)).toNat 1 : Nat)) ∧ ∃ n, w' = w.drewN n := by
  have hq := (fld hD).q64
  have hq2 := (fld hD).q2
  have hc0 : w.cell? ⟨T, 0, none⟩ = some (.int .i64 D.q) := by rw [h.row.cell 0 (by omega), h.tab.sum.c0]
  obtain ⟨j, hj⟩ : ∃ j : Nat, k % ((D.q : Int) - 1) = j ∧ j < D.q - 1 := by
    have h1 := Int.emod_nonneg k (show (D.q : Int) - 1 ≠ 0 from by omega)
    have h2 := Int.emod_lt_of_pos k (show 0 < (D.q : Int) - 1 from by omega)
    exact ⟨(k % ((D.q : Int) - 1)).toNat, by omega, by omega⟩
  obtain ⟨hj, hjq⟩ := hj
  have HJ : Hid (k % ((D.q : Int) - 1) = j) := hj
  have hcp : w.cell? ⟨T, 5 + j, none⟩ = some (.int .i64 (again D.st j 1 : Nat)) := by rw [h.row.cell _ (by omega), h.tab.pows.pow j hjq]
  have hlt := (fld hD).pow_lt j hjq
  have HV : Hid ((k % ((D.q - 1 : Nat) : Int)).toNat = j) := by
    show _ = j
    rw [show ((D.q - 1 : Nat) : Int) = (D.q : Int) - 1 from by omega, hj]; rfl
  have HC : Hid (∀ w1, Calls Try.prog 64 #[.int .i64 k, .int .i64 ((D.q : Int) - 1)] w1 fun e w' => e = .returned (.int .i64 (j : Int)) ∧ w' = w1) := by
    intro w1; rw [← hj]; exact remainder_any _ _ _ (by omega) (by omega) hk1 hk2
  clear h hD hj
  go_enter Try.func39, Try.ntmps39
  go_wp2
  go_quiet ((go_at_call 64; exact Calls.quiet_of_same (HC.out _)))
  go_wp2
  go_ret
  exact ⟨ret_int (by rw [HV.out]), _, rfl⟩
end Go.Proofs.Ytcgmllamiaflcaa
