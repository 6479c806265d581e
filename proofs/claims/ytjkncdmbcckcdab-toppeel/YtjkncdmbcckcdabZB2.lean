/- Texts of ours, one behind the other: B2 B3. -/
import Derived.Test.YtjkncdmbcckcdabZM3
/- A field's calls: sums, products, powers, logarithms. -/
namespace Go.Proofs.Ytjkncdmbcckcdab
open Go.RowKit

def FD.addZ (D : FD) (a b : Int) : Int := if D.has a = true ∧ D.has b = true then (sumD D.p D.q a.toNat b.toNat : Nat) else -1
def FD.negZ (D : FD) (a : Int) : Int := if D.has a = true then (negD D.p D.q a.toNat : Nat) else -1
def FD.mulZ (D : FD) (a b : Int) : Int := if D.has a = true ∧ D.has b = true then (D.mul a.toNat b.toNat : Nat) else -1
def FD.powZ (D : FD) (a k : Int) : Int := if D.has a = false then -1 else if k = 0 then 1 else if a = 0 then (if k < 0 then -1 else 0) else (D.pw a.toNat (k % ((D.q - 1 : Nat) : Int)).toNat : Nat)
theorem has_nat {D : FD} {a : Int} (h : D.has a = true) : ∃ n : Nat, a = n ∧ n < D.q := by
  simp only [FD.has, decide_eq_true_eq] at h
  exact ⟨a.toNat, by omega, by omega⟩
theorem nat_has {D : FD} {n : Nat} (h : n < D.q) : D.has (n : Int) = true := by
  simp only [FD.has, decide_eq_true_eq]; omega

set_option maxHeartbeats 1000000 in
theorem add_any {F T : Nat} {D : FD} (hD : D ∈ fieldsL) {g : Nat → Value} {w : World} (h : FAt F T D g w) (a b : Int) :
    Calls Try.prog 39 #[.pointer (some ⟨F, 0, none⟩), .int .i64 a, .int .i64 b] w fun e w' => e = .returned (.int .i64 (D.addZ a b)) ∧ ∃ n, w' = w.drewN n := by
  have hp := h.ptr
  have hq := (fld hD).q64
  have HF : Hid (FAt F T D g w) := h
  have HL : Hid (Fld D ∧ Two D.p D.q) := ⟨fld hD, fld_two hD⟩
  clear h hD
  by_cases ha : D.has a = true
  · by_cases hb : D.has b = true
    · obtain ⟨x, rfl, hx⟩ := has_nat ha
      obtain ⟨y, rfl, hy⟩ := has_nat hb
      have HV : Hid (D.addZ x y = (sumD D.p D.q x y : Nat)) := by show D.addZ x y = _; rw [FD.addZ, if_pos ⟨ha, hb⟩]; rfl
      have HC : Hid (Calls Try.prog 56 #[.pointer (some ⟨T, 0, none⟩), .int .i64 x, .int .i64 y] w fun e w' => e = .returned (.int .i64 (sumD D.p D.q x y : Nat)) ∧ ∃ n, w' = w.drewN n) :=
        sum_any T D.p D.q x y w HL.out.1.p2 HL.out.1.p64 hq hx hy HL.out.2 (by rw [HF.out.row.cell 0 (by omega), HF.out.tab.sum.c0]) (by rw [HF.out.row.cell 1 (by omega), HF.out.tab.sum.c1])
      go_enter Try.func39, Try.ntmps39
      go_wp2_with (first | (go_at_call 38; refine (has_any HF.out _).mono ?_; rintro e w' ⟨rfl, hw⟩; have hw := hw.symm; subst hw) | (go_at_call 56; refine HC.out.mono ?_; rintro e w' ⟨rfl, n, rfl⟩))
      go_ret
      exact ⟨ret_int (by rw [HV.out]), _, rfl⟩
    · have hb' : D.has b = false := by simpa using hb
      have HV : Hid (D.addZ a b = -1) := by show D.addZ a b = _; rw [FD.addZ, if_neg (by simp [hb'])]
      clear hb
      go_enter Try.func39, Try.ntmps39
      go_wp2_with (go_at_call 38; refine (has_any HF.out _).mono ?_; rintro e w' ⟨rfl, rfl⟩)
      go_ret
      exact ⟨ret_int (by rw [HV.out]), 0, rfl⟩
  · have ha' : D.has a = false := by simpa using ha
    have HV : Hid (D.addZ a b = -1) := by show D.addZ a b = _; rw [FD.addZ, if_neg (by simp [ha'])]
    clear ha
    go_enter Try.func39, Try.ntmps39
    go_wp2_with (go_at_call 38; refine (has_any HF.out _).mono ?_; rintro e w' ⟨rfl, rfl⟩)
    go_ret
    exact ⟨ret_int (by rw [HV.out]), 0, rfl⟩

set_option maxHeartbeats 1000000 in
theorem neg_any {F T : Nat} {D : FD} (hD : D ∈ fieldsL) {g : Nat → Value} {w : World} (h : FAt F T D g w) (a : Int) :
    Calls Try.prog 68 #[.pointer (some ⟨F, 0, none⟩), .int .i64 a] w fun e w' => e = .returned (.int .i64 (D.negZ a)) ∧ ∃ n, w' = w.drewN n := by
  have hp := h.ptr
  have hq := (fld hD).q64
  have HF : Hid (FAt F T D g w) := h
  have HL : Hid (Fld D ∧ Two D.p D.q) := ⟨fld hD, fld_two hD⟩
  clear h hD
  by_cases ha : D.has a = true
  · obtain ⟨x, rfl, hx⟩ := has_nat ha
    have HV : Hid (D.negZ x = (negD D.p D.q x : Nat)) := by show D.negZ x = _; rw [FD.negZ, if_pos ha]; rfl
    have HC : Hid (Calls Try.prog 77 #[.pointer (some ⟨T, 0, none⟩), .int .i64 x] w fun e w' => e = .returned (.int .i64 (negD D.p D.q x : Nat)) ∧ ∃ n, w' = w.drewN n) :=
      opposite_any T D.p D.q x w HL.out.1.p2 HL.out.1.p64 hq hx HL.out.2 (by rw [HF.out.row.cell 0 (by omega), HF.out.tab.sum.c0]) (by rw [HF.out.row.cell 1 (by omega), HF.out.tab.sum.c1])
    go_enter Try.func68, Try.ntmps68
    go_wp2_with (first | (go_at_call 38; refine (has_any HF.out _).mono ?_; rintro e w' ⟨rfl, hw⟩; have hw := hw.symm; subst hw) | (go_at_call 77; refine HC.out.mono ?_; rintro e w' ⟨rfl, n, rfl⟩))
    go_ret
    exact ⟨ret_int (by rw [HV.out]), _, rfl⟩
  · have ha' : D.has a = false := by simpa using ha
    have HV : Hid (D.negZ a = -1) := by show D.negZ a = _; rw [FD.negZ, if_neg (by simp [ha'])]
    clear ha
    go_enter Try.func68, Try.ntmps68
    go_wp2_with (go_at_call 38; refine (has_any HF.out _).mono ?_; rintro e w' ⟨rfl, rfl⟩)
    go_ret
    exact ⟨ret_int (by rw [HV.out]), 0, rfl⟩

theorem remainder_any (k n : Int) (w : World) (h1 : 1 ≤ n) (h2 : n ≤ 64) (hk1 : -9223372036854775808 ≤ k) (hk2 : k ≤ 9223372036854775807) :
    Calls Try.prog 69 #[.int .i64 k, .int .i64 n] w fun e w' => e = .returned (.int .i64 (k % n)) ∧ w' = w := by
  have hb1 := Int.tmod_lt_of_pos k (show (0 : Int) < n from by omega)
  have hb2 := Int.lt_tmod_of_pos k (show (0 : Int) < n from by omega)
  have HV : Hid (k.tmod n % n = k % n) := by
    show k.tmod n % n = k % n
    rw [Int.tmod_def]
    exact Int.sub_mul_emod_self_left _ _ _
  by_cases hk : 0 ≤ k
  · have HW : Hid ((k % n + n) % n = k % n) := by show _ = _; rw [Int.add_emod_right, Int.emod_emod]
    have hb3 := Int.emod_nonneg k (show n ≠ 0 from by omega)
    have hb4 := Int.emod_lt_of_pos k (show 0 < n from by omega)
    clear hb1 hb2
    go_enter Try.func69, Try.ntmps69
    go_wp2
    go_ret
    exact ⟨ret_int (by rw [HW.out]), rfl⟩
  · go_enter Try.func69, Try.ntmps69
    go_wp2
    go_ret
    exact ⟨ret_int (by rw [HV.out]), rfl⟩

set_option maxHeartbeats 1000000 in
theorem power_any {F T : Nat} {D : FD} (hD : D ∈ fieldsL) {g : Nat → Value} {w : World} (h : FAt F T D g w) (k : Int) (hk1 : -9223372036854775808 ≤ k) (hk2 : k ≤ 9223372036854775807) :
    Calls Try.prog 57 #[.pointer (some ⟨T, 0, none⟩), .int .i64 k] w fun e w' => e = .returned (.int .i64 (again D.st (k % ((D.q - 1 : Nat) : Int)).toNat 1 : Nat)) ∧ ∃ n, w' = w.drewN n := by
  have hq := (fld hD).q64
  have hq2 := (fld hD).q2
  have hc0 : w.cell? ⟨T, 0, none⟩ = some (.int .i64 D.q) := by rw [h.row.cell 0 (by omega), h.tab.sum.c0]
  obtain ⟨j, hj⟩ : ∃ j : Nat, k % ((D.q : Int) - 1) = j ∧ j < D.q - 1 := by
    have h1 := Int.emod_nonneg k (show (D.q : Int) - 1 ≠ 0 from by omega)
    have h2 := Int.emod_lt_of_pos k (show 0 < (D.q : Int) - 1 from by omega)
    exact ⟨(k % ((D.q : Int) - 1)).toNat, by omega, by omega⟩
  obtain ⟨hj, hjq⟩ := hj
  have HJ : Hid (k % ((D.q : Int) - 1) = j) := hj
  have hcp : w.cell? ⟨T, 5 + j, none⟩ = some (.int .i64 (again D.st j 1 : Nat)) := by rw [h.row.cell _ (by omega), h.tab.pows.pow j hjq]
  have hlt := (fld hD).pow_lt j hjq
  have HV : Hid ((k % ((D.q - 1 : Nat) : Int)).toNat = j) := by
    show _ = j
    rw [show ((D.q - 1 : Nat) : Int) = (D.q : Int) - 1 from by omega, hj]; rfl
  have HC : Hid (∀ w1, Calls Try.prog 69 #[.int .i64 k, .int .i64 ((D.q : Int) - 1)] w1 fun e w' => e = .returned (.int .i64 (j : Int)) ∧ w' = w1) := by
    intro w1; rw [← hj]; exact remainder_any _ _ _ (by omega) (by omega) hk1 hk2
  clear h hD hj
  go_enter Try.func57, Try.ntmps57
  go_wp2
  go_quiet ((go_at_call 69; exact Calls.quiet_of_same (HC.out _)))
  go_wp2
  go_ret
  exact ⟨ret_int (by rw [HV.out]), _, rfl⟩
end Go.Proofs.Ytjkncdmbcckcdab

/- A field's calls, gone on: products, powers, what undoes a product. -/
namespace Go.Proofs.Ytjkncdmbcckcdab
open Go.RowKit

theorem lg_cell {D : FD} (F : Fld D) {g : Nat → Value} (h : Tab D.q D.p D.m D.low D.gen D.st g) (x : Nat) (hx : x < D.q) (h0 : x ≠ 0) : g (69 + x) = .int .i64 (D.lg x : Nat) := by
  have hl := F.lg_is x hx h0
  have := h.pows.log (D.lg x) hl.1
  rw [hl.2] at this
  exact this

set_option maxHeartbeats 2000000 in
theorem mul_any {F T : Nat} {D : FD} (hD : D ∈ fieldsL) {g : Nat → Value} {w : World} (h : FAt F T D g w) (a b : Int) :
    Calls Try.prog 40 #[.pointer (some ⟨F, 0, none⟩), .int .i64 a, .int .i64 b] w fun e w' => e = .returned (.int .i64 (D.mulZ a b)) ∧ ∃ n, w' = w.drewN n := by
  have hp := h.ptr
  have hq := (fld hD).q64
  have HF : Hid (FAt F T D g w) := h
  have HL : Hid (Fld D ∧ D ∈ fieldsL) := ⟨fld hD, hD⟩
  clear h hD
  by_cases ha : D.has a = true
  · by_cases hb : D.has b = true
    · obtain ⟨x, rfl, hx⟩ := has_nat ha
      obtain ⟨y, rfl, hy⟩ := has_nat hb
      by_cases hx0 : x = 0
      · have hz : ((x : Int) == 0) = true := by rw [hx0]; rfl
        have HV : Hid (D.mulZ x y = 0) := by show D.mulZ x y = _; rw [FD.mulZ, if_pos ⟨ha, hb⟩]; simp [FD.mul, hx0]
        clear hx0
        go_enter Try.func40, Try.ntmps40
        go_wp2_with (go_at_call 38; refine (has_any HF.out _).mono ?_; rintro e w' ⟨rfl, rfl⟩)
        go_ret
        exact ⟨ret_int (by rw [HV.out]), 0, rfl⟩
      by_cases hy0 : y = 0
      · have hz : ((x : Int) == 0) = false := by rw [beq_eq_false_iff_ne]; exact_mod_cast hx0
        have hz' : ((y : Int) == 0) = true := by rw [hy0]; rfl
        have HV : Hid (D.mulZ x y = 0) := by show D.mulZ x y = _; rw [FD.mulZ, if_pos ⟨ha, hb⟩]; simp [FD.mul, hy0]
        clear hx0 hy0
        go_enter Try.func40, Try.ntmps40
        go_wp2_with (go_at_call 38; refine (has_any HF.out _).mono ?_; rintro e w' ⟨rfl, rfl⟩)
        go_ret
        exact ⟨ret_int (by rw [HV.out]), 0, rfl⟩
      have hz : ((x : Int) == 0) = false := by rw [beq_eq_false_iff_ne]; exact_mod_cast hx0
      have hz' : ((y : Int) == 0) = false := by rw [beq_eq_false_iff_ne]; exact_mod_cast hy0
      have hcx : w.cell? ⟨T, 69 + x, none⟩ = some (.int .i64 (D.lg x : Nat)) := by rw [HF.out.row.cell _ (by omega), lg_cell HL.out.1 HF.out.tab x hx hx0]
      have hcy : w.cell? ⟨T, 69 + y, none⟩ = some (.int .i64 (D.lg y : Nat)) := by rw [HF.out.row.cell _ (by omega), lg_cell HL.out.1 HF.out.tab y hy hy0]
      have hlx := (HL.out.1.lg_is x hx hx0).1
      have hly := (HL.out.1.lg_is y hy hy0).1
      have HV : Hid (D.mulZ x y = (again D.st ((((D.lg x : Nat) : Int) + ((D.lg y : Nat) : Int)) % ((D.q - 1 : Nat) : Int)).toNat 1 : Nat)) := by
        show D.mulZ x y = _
        rw [FD.mulZ, if_pos ⟨ha, hb⟩, FD.mul, if_neg (by omega)]
        rfl
      have HC : Hid (∀ n, Calls Try.prog 57 #[.pointer (some ⟨T, 0, none⟩), .int .i64 (((D.lg x : Nat) : Int) + ((D.lg y : Nat) : Int))] (w.drewN n) fun e w' => e = .returned (.int .i64 (D.mulZ x y)) ∧ ∃ m, w' = (w.drewN n).drewN m) := by
        intro n; rw [HV.out]; exact power_any HL.out.2 (HF.out.drewN n) _ (by omega) (by omega)
      clear hx0 hy0 HV
      go_enter Try.func40, Try.ntmps40
      go_wp2_with (go_at_call 38; refine (has_any HF.out _).mono ?_; rintro e w' ⟨rfl, rfl⟩)
      go_quiet ((go_at_call 57; exact Calls.quiet_of (HC.out _)))
      go_wp2
      go_ret
      exact ⟨rfl, _, rfl⟩
    · have hb' : D.has b = false := by simpa using hb
      have HV : Hid (D.mulZ a b = -1) := by show D.mulZ a b = _; rw [FD.mulZ, if_neg (by simp [hb'])]
      clear hb
      go_enter Try.func40, Try.ntmps40
      go_wp2_with (go_at_call 38; refine (has_any HF.out _).mono ?_; rintro e w' ⟨rfl, rfl⟩)
      go_ret
      exact ⟨ret_int (by rw [HV.out]), 0, rfl⟩
  · have ha' : D.has a = false := by simpa using ha
    have HV : Hid (D.mulZ a b = -1) := by show D.mulZ a b = _; rw [FD.mulZ, if_neg (by simp [ha'])]
    clear ha
    go_enter Try.func40, Try.ntmps40
    go_wp2_with (go_at_call 38; refine (has_any HF.out _).mono ?_; rintro e w' ⟨rfl, rfl⟩)
    go_ret
    exact ⟨ret_int (by rw [HV.out]), 0, rfl⟩

set_option maxHeartbeats 2000000 in
theorem pow_any {F T : Nat} {D : FD} (hD : D ∈ fieldsL) {g : Nat → Value} {w : World} (h : FAt F T D g w) (a k : Int) (hk1 : -9223372036854775808 ≤ k) (hk2 : k ≤ 9223372036854775807) :
    Calls Try.prog 78 #[.pointer (some ⟨F, 0, none⟩), .int .i64 a, .int .i64 k] w fun e w' => e = .returned (.int .i64 (D.powZ a k)) ∧ ∃ n, w' = w.drewN n := by
  have hp := h.ptr
  have hq := (fld hD).q64
  have hq2 := (fld hD).q2
  have hc0 : w.cell? ⟨T, 0, none⟩ = some (.int .i64 D.q) := by rw [h.row.cell 0 (by omega), h.tab.sum.c0]
  have HF : Hid (FAt F T D g w) := h
  have HL : Hid (Fld D ∧ D ∈ fieldsL) := ⟨fld hD, hD⟩
  clear h hD
  by_cases ha : D.has a = true
  · by_cases hk : k = 0
    · have hz : (k == 0) = true := by rw [hk]; rfl
      have HV : Hid (D.powZ a k = 1) := by show D.powZ a k = _; rw [FD.powZ, if_neg (by simp [ha]), if_pos hk]
      clear hk
      go_enter Try.func78, Try.ntmps78
      go_wp2_with (go_at_call 38; refine (has_any HF.out _).mono ?_; rintro e w' ⟨rfl, rfl⟩)
      go_ret
      exact ⟨ret_int (by rw [HV.out]), 0, rfl⟩
    have hkz : (k == 0) = false := by rw [beq_eq_false_iff_ne]; exact hk
    by_cases ha0 : a = 0
    · have hz : (a == 0) = true := by rw [ha0]; rfl
      by_cases hneg : k < 0
      · have HV : Hid (D.powZ a k = -1) := by show D.powZ a k = _; rw [FD.powZ, if_neg (by simp [ha]), if_neg hk, if_pos ha0, if_pos hneg]
        clear ha0 hk
        go_enter Try.func78, Try.ntmps78
        go_wp2_with (go_at_call 38; refine (has_any HF.out _).mono ?_; rintro e w' ⟨rfl, rfl⟩)
        go_ret
        exact ⟨ret_int (by rw [HV.out]), 0, rfl⟩
      · have HV : Hid (D.powZ a k = 0) := by show D.powZ a k = _; rw [FD.powZ, if_neg (by simp [ha]), if_neg hk, if_pos ha0, if_neg hneg]
        clear ha0 hk
        go_enter Try.func78, Try.ntmps78
        go_wp2_with (go_at_call 38; refine (has_any HF.out _).mono ?_; rintro e w' ⟨rfl, rfl⟩)
        go_ret
        exact ⟨ret_int (by rw [HV.out]), 0, rfl⟩
    obtain ⟨x, rfl, hx⟩ := has_nat ha
    have hx0 : x ≠ 0 := by intro e; exact ha0 (by rw [e]; rfl)
    have hz : ((x : Int) == 0) = false := by rw [beq_eq_false_iff_ne]; exact ha0
    have hcx : w.cell? ⟨T, 69 + x, none⟩ = some (.int .i64 (D.lg x : Nat)) := by rw [HF.out.row.cell _ (by omega), lg_cell HL.out.1 HF.out.tab x hx hx0]
    have hlx := (HL.out.1.lg_is x hx hx0).1
    obtain ⟨r, hr, hrq⟩ : ∃ r : Nat, k % ((D.q : Int) - 1) = r ∧ r < D.q - 1 := by
      have h1 := Int.emod_nonneg k (show (D.q : Int) - 1 ≠ 0 from by omega)
      have h2 := Int.emod_lt_of_pos k (show 0 < (D.q : Int) - 1 from by omega)
      exact ⟨(k % ((D.q : Int) - 1)).toNat, by omega, by omega⟩
    have h1 : D.lg x * r ≤ 64 * 64 := Nat.mul_le_mul (by omega) (by omega)
    have h4 : ((D.lg x : Nat) : Int) * (r : Int) ≤ 4096 := by rw [← Int.natCast_mul]; omega
    have h5 : 0 ≤ ((D.lg x : Nat) : Int) * (r : Int) := by rw [← Int.natCast_mul]; omega
    have HR : Hid (∀ w1, Calls Try.prog 69 #[.int .i64 k, .int .i64 ((D.q : Int) - 1)] w1 fun e w' => e = .returned (.int .i64 (r : Int)) ∧ w' = w1) := by
      intro w1; rw [← hr]; exact remainder_any _ _ _ (by omega) (by omega) hk1 hk2
    have HV : Hid (D.powZ x k = (again D.st ((((D.lg x : Nat) : Int) * (r : Int)) % ((D.q - 1 : Nat) : Int)).toNat 1 : Nat)) := by
      show D.powZ x k = _
      rw [FD.powZ, if_neg (by simp [ha]), if_neg hk, if_neg ha0, FD.pw, show ((D.q - 1 : Nat) : Int) = (D.q : Int) - 1 from by omega, hr, ← Int.natCast_mul, show (D.q : Int) - 1 = ((D.q - 1 : Nat) : Int) from by omega]
      rfl
    have HC : Hid (∀ n, Calls Try.prog 57 #[.pointer (some ⟨T, 0, none⟩), .int .i64 (((D.lg x : Nat) : Int) * (r : Int))] (w.drewN n) fun e w' => e = .returned (.int .i64 (D.powZ x k)) ∧ ∃ m, w' = (w.drewN n).drewN m) := by
      intro n; rw [HV.out]; exact power_any HL.out.2 (HF.out.drewN n) _ (by omega) (by omega)
    clear hx0 ha0 HV hr hk
    go_enter Try.func78, Try.ntmps78
    go_wp2_with (go_at_call 38; refine (has_any HF.out _).mono ?_; rintro e w' ⟨rfl, rfl⟩)
    go_quiet (first | (go_at_call 69; exact Calls.quiet_of_same (HR.out _)) | (go_at_call 57; exact Calls.quiet_of (HC.out _)))
    go_wp2
    go_ret
    exact ⟨rfl, _, rfl⟩
  · have ha' : D.has a = false := by simpa using ha
    have HV : Hid (D.powZ a k = -1) := by show D.powZ a k = _; rw [FD.powZ, if_pos ha']
    clear ha
    go_enter Try.func78, Try.ntmps78
    go_wp2_with (go_at_call 38; refine (has_any HF.out _).mono ?_; rintro e w' ⟨rfl, rfl⟩)
    go_ret
    exact ⟨ret_int (by rw [HV.out]), 0, rfl⟩

theorem inv_any {F T : Nat} {D : FD} (hD : D ∈ fieldsL) {g : Nat → Value} {w : World} (h : FAt F T D g w) (a : Int) :
    Calls Try.prog 74 #[.pointer (some ⟨F, 0, none⟩), .int .i64 a] w fun e w' => e = .returned (.int .i64 (D.powZ a (-1))) ∧ ∃ n, w' = w.drewN n := by
  have HF : Hid (FAt F T D g w) := h
  have HD : Hid (D ∈ fieldsL) := hD
  clear h hD
  go_enter Try.func74, Try.ntmps74
  go_wp2_with fail
  refine (pow_any HD.out HF.out a (-1) (by omega) (by omega)).mono ?_
  rintro e w' ⟨rfl, n, rfl⟩
  go_wp2
  go_ret
  exact ⟨rfl, n, rfl⟩
end Go.Proofs.Ytjkncdmbcckcdab
