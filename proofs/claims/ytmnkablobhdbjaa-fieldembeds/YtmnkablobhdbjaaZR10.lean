/- The reference: powers, logarithms, and what Frobenius makes. -/
import Derived.Test.YtmnkablobhdbjaaZR9
namespace Go.Proofs.Ytmnkablobhdbjaa
open Go.RowKit

/-! ### Plain mathematics -/
/-- An element times itself, so many times. -/
def FD.pwr (D : FD) (x k : Nat) : Nat := again (fun r => D.mul r x) k 1
theorem pwr_lt {D : FD} (hD : D ∈ fieldsL) (x : Nat) : ∀ k, D.pwr x k < D.q
  | 0 => by have := (fld hD).q2; show 1 < D.q; omega
  | k + 1 => (fld hD).mul_lt _ _
theorem pwr_is {D : FD} (hD : D ∈ fieldsL) (x : Nat) (h0 : x ≠ 0) : ∀ k, D.pwr x k = D.pw x k
  | 0 => (pw_zero hD x).symm
  | k + 1 => by
    show D.mul (D.pwr x k) x = _
    rw [pwr_is hD x h0 k, pw_succ hD x k h0]
/-- The product, as a call of the reference in whatever world behind. -/
theorem rmul_nat {D : FD} (hD : D ∈ fieldsL) (gen : Nat) {v : Value} {w : World} (hM : ModAt D v D.md w) (a b : Nat) (ha : a < D.q) (hb : b < D.q) (wr : World) (h : Below w.heap.size w wr) :
    Calls Try.prog 24 #[.agg #[.int .i64 D.q, .int .i64 D.p, .int .i64 D.m, .int .i64 gen, v], .int .i64 a, .int .i64 b] wr fun e w' => e = .returned (.int .i64 (D.mul a b : Nat)) ∧ Below wr.heap.size wr w' := by
  rw [← mulZ_nat (fld hD) ha hb]
  exact rmul_any hD gen a b (hM.below h)

theorem emod_tmod (k n : Int) : k.tmod n % n = k % n := by
  rw [Int.tmod_def]
  exact Int.sub_mul_emod_self_left _ _ _
theorem emod_of_tmod_neg (k n : Int) (hn : 0 < n) (h : k.tmod n < 0) : k.tmod n + n = k % n := by
  have h2 := Int.lt_tmod_of_pos k hn
  rw [← emod_tmod k n, ← Int.add_emod_right (k.tmod n) n]
  exact (Int.emod_eq_of_lt (by omega) (by omega)).symm
theorem emod_of_tmod_pos (k n : Int) (hn : 0 < n) (h : 0 ≤ k.tmod n) : k.tmod n = k % n := by
  have h2 := Int.tmod_lt_of_pos k hn
  rw [← emod_tmod k n]
  exact (Int.emod_eq_of_lt h h2).symm

/-! ### Calls -/
set_option maxHeartbeats 4000000 in
theorem rpow_any {D : FD} (hD : D ∈ fieldsL) (gen : Nat) {v : Value} (a k : Int) {w : World} (hk1 : -9223372036854775808 ≤ k) (hk2 : k ≤ 9223372036854775807) (hM : ModAt D v D.md w) :
    Calls Try.prog 30 #[rf D.q D.p D.m gen v, .int .i64 a, .int .i64 k] w fun e w' => e = .returned (.int .i64 (D.powZ a k)) ∧ Below w.heap.size w w' := by
  have F := fld hD
  have h64 := F.q64
  have h2 := F.q2
  have HM : Hid (ModAt D v D.md w ∧ D ∈ fieldsL ∧ Fld D) := ⟨hM, hD, F⟩
  have HA : Hid (∀ (w0 : World), Calls Try.prog 18 #[.agg #[.int .i64 D.q, .int .i64 D.p, .int .i64 D.m, .int .i64 gen, v], .int .i64 a] w0 fun e w' => e = .returned (.bool (D.has a)) ∧ Below w0.heap.size w0 w') := fun w0 => rhas_any D gen v a w0
  clear hM hD F
  by_cases ha : D.has a = true
  · by_cases hk : k = 0
    · have hz : (k == 0) = true := by rw [hk]; rfl
      have hkn : ¬ k < 0 := by omega
      have HV : Hid (D.powZ a k = 1) := by show D.powZ a k = _; rw [FD.powZ, if_neg (by simp [ha]), if_pos hk]
      clear hk
      by_cases ha0 : a = 0
      · have hz0 : (a == 0) = true := beq_iff_eq.2 ha0
        clear ha0
        unfold rf
        go_enter Try.func30, Try.ntmps30
        go_wp2_with fail
        refine (HA.out _).mono ?_
        rintro e w1 ⟨rfl, hb1⟩
        have HB1 : Hid (Below w.heap.size w w1) := ((Below.refl _ _).alloc (Nat.le_refl _) _).trans (hb1.mono (by simp))
        clear hb1
        go_wp2
        go_ret
        exact ⟨ret_int (by rw [HV.out]), HB1.out⟩
      · have hz0 : (a == 0) = false := beq_eq_false_iff_ne.2 ha0
        clear ha0
        unfold rf
        go_enter Try.func30, Try.ntmps30
        go_wp2_with fail
        refine (HA.out _).mono ?_
        rintro e w1 ⟨rfl, hb1⟩
        have HB1 : Hid (Below w.heap.size w w1) := ((Below.refl _ _).alloc (Nat.le_refl _) _).trans (hb1.mono (by simp))
        clear hb1
        go_wp2
        go_ret
        exact ⟨ret_int (by rw [HV.out]), HB1.out⟩
    have hkz : (k == 0) = false := beq_eq_false_iff_ne.2 hk
    by_cases ha0 : a = 0
    · have hz0 : (a == 0) = true := beq_iff_eq.2 ha0
      by_cases hneg : k < 0
      · have HV : Hid (D.powZ a k = -1) := by show D.powZ a k = _; rw [FD.powZ, if_neg (by simp [ha]), if_neg hk, if_pos ha0, if_pos hneg]
        clear ha0 hk
        unfold rf
        go_enter Try.func30, Try.ntmps30
        go_wp2_with fail
        refine (HA.out _).mono ?_
        rintro e w1 ⟨rfl, hb1⟩
        have HB1 : Hid (Below w.heap.size w w1) := ((Below.refl _ _).alloc (Nat.le_refl _) _).trans (hb1.mono (by simp))
        clear hb1
        go_wp2
        go_ret
        exact ⟨ret_int (by rw [HV.out]), HB1.out⟩
      · have HV : Hid (D.powZ a k = 0) := by show D.powZ a k = _; rw [FD.powZ, if_neg (by simp [ha]), if_neg hk, if_pos ha0, if_neg hneg]
        clear ha0 hk
        unfold rf
        go_enter Try.func30, Try.ntmps30
        go_wp2_with fail
        refine (HA.out _).mono ?_
        rintro e w1 ⟨rfl, hb1⟩
        have HB1 : Hid (Below w.heap.size w w1) := ((Below.refl _ _).alloc (Nat.le_refl _) _).trans (hb1.mono (by simp))
        clear hb1
        go_wp2
        go_ret
        exact ⟨ret_int (by rw [HV.out]), HB1.out⟩
    obtain ⟨x, rfl, hx⟩ := has_nat ha
    have hx0 : x ≠ 0 := by intro e; exact ha0 (by rw [e]; rfl)
    have hz0 : ((x : Int) == 0) = false := beq_eq_false_iff_ne.2 ha0
    obtain ⟨r, hr, hrq⟩ : ∃ r : Nat, k % ((D.q : Int) - 1) = r ∧ r < D.q - 1 := by
      have h1 := Int.emod_nonneg k (show (D.q : Int) - 1 ≠ 0 from by omega)
      have h2 := Int.emod_lt_of_pos k (show 0 < (D.q : Int) - 1 from by omega)
      exact ⟨(k % ((D.q : Int) - 1)).toNat, by omega, by omega⟩
    have HV : Hid (D.powZ x k = (D.pwr x r : Nat)) := by
      show D.powZ x k = _
      rw [FD.powZ, if_neg (by simp [ha]), if_neg hk, if_neg ha0, show ((D.q - 1 : Nat) : Int) = (D.q : Int) - 1 from by omega, hr, pwr_is HM.out.2.1 x hx0]
      rfl
    have HR : Hid (k % ((D.q : Int) - 1) = r) := hr
    have hb1 := Int.tmod_lt_of_pos k (show (0 : Int) < (D.q : Int) - 1 from by omega)
    have hb2 := Int.lt_tmod_of_pos k (show (0 : Int) < (D.q : Int) - 1 from by omega)
    clear hx0 ha0 hr hk
    unfold rf
    go_enter Try.func30, Try.ntmps30
    go_wp2_with fail
    refine (HA.out _).mono ?_
    rintro e w1 ⟨rfl, hb1⟩
    have HX1 : Hid (Box w.heap.size D gen v w1 ∧ Below w.heap.size w w1) := ⟨(box_new D gen v w).below hb1 (by simp), ((Below.refl _ _).alloc (Nat.le_refl _) _).trans (hb1.mono (by simp))⟩
    have hs1 : w.heap.size < w1.heap.size := by have := hb1.size; simp at this; omega
    obtain ⟨c0, c1, c2, c3, c4⟩ := HX1.out.1
    clear hb1
    go_wp2
    all_goals
      first
        | rw [show decide (k.tmod ((D.q : Int) - 1) < 0) = true from decide_eq_true ‹_›, show k.tmod ((D.q : Int) - 1) + (D.q : Int) - 1 = (r : Int) from by have h := emod_of_tmod_neg k ((D.q : Int) - 1) (by omega) ‹_›; rw [HR.out] at h; omega]
        | rw [show decide (k.tmod ((D.q : Int) - 1) < 0) = false from decide_eq_false (by omega), show k.tmod ((D.q : Int) - 1) = (r : Int) from by have h := emod_of_tmod_pos k ((D.q : Int) - 1) (by omega) (by omega); rw [HR.out] at h; exact h]
      clear hb1 hb2 HR c0 c1 c2 c3 c4
      go_loopw [7, 8] (fun r' i wr => ∃ j : Nat, j ≤ r ∧ i = .int .i64 j ∧ r' = .int .i64 (D.pwr x j : Nat) ∧ Box w.heap.size D gen v wr ∧ Below w.heap.size w wr ∧ w.heap.size < wr.heap.size) (fun _ i _ => r - (intOf i).toNat)
      case atStart => exact ⟨0, by omega, rfl, rfl, HX1.out.1, HX1.out.2, hs1⟩
      case round =>
        obtain ⟨j, hj, rfl, rfl, hbox, hbel, hlt⟩ := hrel
        obtain ⟨c0, c1, c2, c3, c4⟩ := hbox
        have HG : Hid (Box w.heap.size D gen v wr ∧ Below w.heap.size w wr) := ⟨⟨c0, c1, c2, c3, c4⟩, hbel⟩
        clear hbel
        have HC : Hid (Calls Try.prog 24 #[.agg #[.int .i64 D.q, .int .i64 D.p, .int .i64 D.m, .int .i64 gen, v], .int .i64 (D.pwr x j : Nat), .int .i64 x] wr fun e w' => e = .returned (.int .i64 (D.pwr x (j + 1) : Nat)) ∧ Below wr.heap.size wr w') :=
          rmul_nat HM.out.2.1 gen HM.out.1 _ x (pwr_lt HM.out.2.1 x j) hx wr HG.out.2
        by_cases hjr : j < r
        · go_wp2_with fail
          refine HC.out.mono ?_
          rintro e w2 ⟨rfl, hb2⟩
          have HR2 : Hid (Box w.heap.size D gen v w2 ∧ Below w.heap.size w w2 ∧ w.heap.size < w2.heap.size) := ⟨HG.out.1.below hb2 hlt, HG.out.2.trans (hb2.mono (by omega)), by have := hb2.size; omega⟩
          clear hb2 c0 c1 c2 c3 c4 HC
          go_wp2
          go_roundw
          case rel => exact ⟨j + 1, by omega, by go_num, rfl, HR2.out⟩
          case measure => simp [intOf]; omega
        · have HE : Hid (j = r) := by show j = r; omega
          go_wp2
          go_ret
          exact ⟨ret_int (by rw [HV.out, HE.out]), HG.out.2⟩
  · have ha' : D.has a = false := by simpa using ha
    have HV : Hid (D.powZ a k = -1) := by show _ = _; rw [FD.powZ, if_pos ha']
    rw [ha'] at HA
    clear ha
    unfold rf
    go_enter Try.func30, Try.ntmps30
    go_wp2_with fail
    refine (HA.out _).mono ?_
    rintro e w1 ⟨rfl, hb1⟩
    have HB1 : Hid (Below w.heap.size w w1) := ((Below.refl _ _).alloc (Nat.le_refl _) _).trans (hb1.mono (by simp))
    clear hb1
    go_wp2
    go_ret
    exact ⟨ret_int (by rw [HV.out]), HB1.out⟩
end Go.Proofs.Ytmnkablobhdbjaa
