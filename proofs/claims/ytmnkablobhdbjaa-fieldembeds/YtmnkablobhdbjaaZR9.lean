/- The reference: no field; what undoes a product, powers, logarithms. -/
import Derived.Test.YtmnkablobhdbjaaZR8
import Derived.Test.YtmnkablobhdbjaaZC1
namespace Go.Proofs.Ytmnkablobhdbjaa
open Go.RowKit

theorem pp_zero : (allB 65 fun q => decide (q < 2) || !((pp q).2 == 0) || (pp q).1 == 0) = true := by decide +kernel
def rf0 : Value := .agg #[.int .i64 0, .int .i64 0, .int .i64 0, .int .i64 0, .slice none 0 0]

set_option maxHeartbeats 2000000 in
theorem rfield_none (q : Int) (w : World) (h : ∀ D ∈ fieldsL, (D.q : Int) ≠ q) :
    Calls Try.prog 10 #[.int .i64 q] w fun e w' => e = .returned (.tuple #[rf0, .int .i64 1]) ∧ Below w.heap.size w w' := by
  unfold rf0
  by_cases h0 : q < 2
  · clear h
    go_enter Try.func10, Try.ntmps10
    go_wp2
    exact bodyPost_ret (v := .tuple #[.agg #[.int .i64 0, .int .i64 0, .int .i64 0, .int .i64 0, .slice none 0 0], .int .i64 1]) (by simp [results, Try.results10, go_sem]) rfl ⟨rfl, (Below.refl _ _).alloc (Nat.le_refl _) _⟩
  by_cases h1 : 64 < q
  · clear h
    go_enter Try.func10, Try.ntmps10
    go_wp2
    exact bodyPost_ret (v := .tuple #[.agg #[.int .i64 0, .int .i64 0, .int .i64 0, .int .i64 0, .slice none 0 0], .int .i64 1]) (by simp [results, Try.results10, go_sem]) rfl ⟨rfl, (Below.refl _ _).alloc (Nat.le_refl _) _⟩
  obtain ⟨n, rfl⟩ := Int.eq_ofNat_of_zero_le (show 0 ≤ q from by omega)
  have hz : (pp n).1 = 0 := by
    have h3 := no_field (q := n) (by omega) (fun D hD e => h D hD (by rw [e]))
    have h4 := allB_of pp_zero n (by omega)
    rcases h3 with h3 | h3
    · omega
    · simp only [h3, beq_self_eq_true, Bool.not_true, Bool.or_false, Bool.or_eq_true, decide_eq_true_eq, beq_iff_eq] at h4
      rcases h4 with h4 | h4
      · omega
      · exact h4
  have HZ : Hid ((pp n).1 = 0) := hz
  clear h hz
  go_enter Try.func10, Try.ntmps10
  go_wp2_with fail
  refine (prime_any n _ (by omega) (by omega)).mono ?_
  rintro e w' ⟨rfl, rfl⟩
  rw [HZ.out]
  go_wp2
  exact bodyPost_ret (v := .tuple #[.agg #[.int .i64 0, .int .i64 0, .int .i64 0, .int .i64 0, .slice none 0 0], .int .i64 1]) (by simp [results, Try.results10, go_sem]) rfl ⟨rfl, (Below.refl _ _).alloc (Nat.le_refl _) _⟩

theorem rfield_any {D : FD} (hD : D ∈ fieldsL) (w : World) :
    Calls Try.prog 10 #[.int .i64 D.q] w fun e w' => ∃ v, e = .returned (.tuple #[rf D.q D.p D.m D.gen v, .int .i64 0]) ∧ OwnI w.heap.size v D.modL w' ∧ ModAt D v D.md w' ∧ Below w.heap.size w w' := by
  by_cases hm : D.m = 1
  · refine (rfield_prime hD hm w).mono ?_
    rintro e w' ⟨v, h1, h2, h3⟩
    exact ⟨v, h1, h2, modAt_one hm (fld hD).p2 v w', h3⟩
  · exact rfield_power hD hm w

/-! ### Plain mathematics -/
theorem pw_zero {D : FD} (_hD : D ∈ fieldsL) (a : Nat) : D.pw a 0 = 1 := by
  unfold FD.pw; rw [Nat.mul_zero, Nat.zero_mod]; rfl
theorem pw_succ {D : FD} (hD : D ∈ fieldsL) (a k : Nat) (h0 : a ≠ 0) : D.mul (D.pw a k) a = D.pw a (k + 1) := by
  have hp := pw_ne hD a k
  rw [FD.mul, if_neg (by omega), hp.2, Nat.mod_add_mod, FD.pw, Nat.mul_add, Nat.mul_one]
/-! ### Calls -/
end Go.Proofs.Ytmnkablobhdbjaa
