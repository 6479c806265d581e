/- Weights: the law's walk of the bounds (printed by make/kb8.py). -/
import Derived.Test.YtnjbnamcedfjaaaZKB3
import Derived.Test.YtnjbnamcedfjaaaZKB7
namespace Go.Proofs.Ytnjbnamcedfjaaa
open Go.RowKit Go.Sort

/-- Four numbers in a block. -/
structure Four (g : Nat) (a b c d : Int) (w : World) : Prop where
  lt : g < w.heap.size
  c0 : w.cell? ⟨g, 0, none⟩ = some (.int .i64 a)
  c1 : w.cell? ⟨g, 1, none⟩ = some (.int .i64 b)
  c2 : w.cell? ⟨g, 2, none⟩ = some (.int .i64 c)
  c3 : w.cell? ⟨g, 3, none⟩ = some (.int .i64 d)
theorem Four.below {g : Nat} {a b c d : Int} {w w' : World} (h : Four g a b c d w) (hb : Below w.heap.size w w') : Four g a b c d w' :=
  ⟨Nat.lt_of_lt_of_le h.lt hb.size, ((bcell hb).1 g 0 h.lt).trans h.c0, ((bcell hb).1 g 1 h.lt).trans h.c1, ((bcell hb).1 g 2 h.lt).trans h.c2, ((bcell hb).1 g 3 h.lt).trans h.c3⟩
theorem four_alloc (w : World) (a b c d : Int) : Four w.heap.size a b c d (w.alloc (.cells #[.int .i64 a, .int .i64 b, .int .i64 c, .int .i64 d] 3)) :=
  ⟨by simp, by simp, by simp, by simp, by simp⟩

set_option maxHeartbeats 4000000 in
set_option maxRecDepth 100000 in
theorem bd_e (q n d e0 : Int) (h0 : e0 ≠ 0) {w : World} (hC : ∀ wx, Calls Try.prog 47 #[.int .i64 q, .int .i64 n, .int .i64 d] wx fun e w' => e = .returned (.int .i64 e0) ∧ Below wx.heap.size wx w') :
    Calls Try.prog 13 #[.int .i64 q, .int .i64 n, .int .i64 d, .int .i64 e0] w fun e w' => e = .returned (.bool true) ∧ Below w.heap.size w w' := by
  have hz : (e0 == 0) = false := by rw [beq_eq_false_iff_ne]; exact h0
  have hz2 : decide (e0 = 0) = false := by rw [decide_eq_false_iff_not]; exact h0
  have HE : Hid (e0 ≠ 0) := h0
  have HC : Hid (∀ wx, Calls Try.prog 47 #[.int .i64 q, .int .i64 n, .int .i64 d] wx fun e w' => e = .returned (.int .i64 e0) ∧ Below wx.heap.size wx w') := hC
  obtain ⟨wa, hwa⟩ : ∃ wa, wa = w.alloc (.cells #[.int .i64 0, .int .i64 0, .int .i64 0, .int .i64 0] 3) := ⟨_, rfl⟩
  have HA : Hid (Below w.heap.size w wa ∧ Four w.heap.size 0 0 0 0 wa) := by
    rw [hwa]; exact ⟨(Below.refl _ _).alloc (Nat.le_refl _) _, four_alloc _ _ _ _ _⟩
  clear hC
  go_enter Try.func13, Try.ntmps13
  go_wp2_with fail
  rw [← hwa]
  refine (wH_err _ _ _ e0 HE.out (HC.out _)).mono ?_
  rintro e w5 ⟨rfl, hb⟩
  have H5 : Hid (Below w.heap.size w w5 ∧ Four w.heap.size 0 0 0 0 w5) := ⟨bel_up' HA.out.1 hb, HA.out.2.below hb⟩
  clear hb HA
  go_wp2_with fail
  refine (wS_err _ _ _ e0 HE.out (HC.out _)).mono ?_
  rintro e w6 ⟨rfl, hb⟩
  have H6 : Hid (Below w.heap.size w w6 ∧ Four w.heap.size 0 0 0 0 w6) := ⟨bel_up' H5.out.1 hb, H5.out.2.below hb⟩
  clear hb H5
  go_wp2_with fail
  refine (wP_err _ _ _ e0 HE.out (HC.out _)).mono ?_
  rintro e w7 ⟨rfl, hb⟩
  have H7 : Hid (Below w.heap.size w w7 ∧ Four w.heap.size 0 0 0 0 w7) := ⟨bel_up' H6.out.1 hb, H6.out.2.below hb⟩
  clear hb H6
  go_wp2_with fail
  refine (wV_err _ _ _ e0 HE.out (HC.out _)).mono ?_
  rintro e w8 ⟨rfl, hb⟩
  have H8 : Hid (Below w.heap.size w w8 ∧ Four w.heap.size 0 0 0 0 w8) := ⟨bel_up' H7.out.1 hb, H7.out.2.below hb⟩
  clear hb H7
  have c0 := H8.out.2.c0
  have c1 := H8.out.2.c1
  have c2 := H8.out.2.c2
  have c3 := H8.out.2.c3
  go_wp2_with (go_at_call 12; refine (num_err e0 HE.out 0 _).mono ?_; rintro e w' ⟨rfl, hw⟩; have hw := hw.symm; subst hw)
  go_ret
  exact ⟨rfl, H8.out.1⟩

set_option maxHeartbeats 4000000 in
set_option maxRecDepth 100000 in
theorem bd_lo (q n d : Int) (h1 : d < 1) {w : World} (hC : ∀ wx, Calls Try.prog 47 #[.int .i64 q, .int .i64 n, .int .i64 d] wx fun e w' => e = .returned (.int .i64 10) ∧ Below wx.heap.size wx w') :
    Calls Try.prog 13 #[.int .i64 q, .int .i64 n, .int .i64 d, .int .i64 0] w fun e w' => e = .returned (.bool true) ∧ Below w.heap.size w w' := by
  have HE : Hid ((10 : Int) ≠ 0) := (by decide : (10 : Int) ≠ 0)
  have HC : Hid (∀ wx, Calls Try.prog 47 #[.int .i64 q, .int .i64 n, .int .i64 d] wx fun e w' => e = .returned (.int .i64 10) ∧ Below wx.heap.size wx w') := hC
  obtain ⟨wa, hwa⟩ : ∃ wa, wa = w.alloc (.cells #[.int .i64 0, .int .i64 0, .int .i64 0, .int .i64 0] 3) := ⟨_, rfl⟩
  have HA : Hid (Below w.heap.size w wa ∧ Four w.heap.size 0 0 0 0 wa) := by
    rw [hwa]; exact ⟨(Below.refl _ _).alloc (Nat.le_refl _) _, four_alloc _ _ _ _ _⟩
  clear hC
  go_enter Try.func13, Try.ntmps13
  go_wp2_with fail
  rw [← hwa]
  refine (wH_err _ _ _ 10 HE.out (HC.out _)).mono ?_
  rintro e w5 ⟨rfl, hb⟩
  have H5 : Hid (Below w.heap.size w w5 ∧ Four w.heap.size 0 0 0 0 w5) := ⟨bel_up' HA.out.1 hb, HA.out.2.below hb⟩
  clear hb HA
  go_wp2_with fail
  refine (wS_err _ _ _ 10 HE.out (HC.out _)).mono ?_
  rintro e w6 ⟨rfl, hb⟩
  have H6 : Hid (Below w.heap.size w w6 ∧ Four w.heap.size 0 0 0 0 w6) := ⟨bel_up' H5.out.1 hb, H5.out.2.below hb⟩
  clear hb H5
  go_wp2_with fail
  refine (wP_err _ _ _ 10 HE.out (HC.out _)).mono ?_
  rintro e w7 ⟨rfl, hb⟩
  have H7 : Hid (Below w.heap.size w w7 ∧ Four w.heap.size 0 0 0 0 w7) := ⟨bel_up' H6.out.1 hb, H6.out.2.below hb⟩
  clear hb H6
  go_wp2_with fail
  refine (wV_err _ _ _ 10 HE.out (HC.out _)).mono ?_
  rintro e w8 ⟨rfl, hb⟩
  have H8 : Hid (Below w.heap.size w w8 ∧ Four w.heap.size 0 0 0 0 w8) := ⟨bel_up' H7.out.1 hb, H7.out.2.below hb⟩
  clear hb H7
  have c0 := H8.out.2.c0
  have c1 := H8.out.2.c1
  have c2 := H8.out.2.c2
  have c3 := H8.out.2.c3
  go_wp2_with (go_at_call 12; refine (num_err 10 HE.out 0 _).mono ?_; rintro e w' ⟨rfl, hw⟩; have hw := hw.symm; subst hw)
  go_ret
  exact ⟨rfl, H8.out.1⟩

set_option maxHeartbeats 4000000 in
set_option maxRecDepth 100000 in
theorem bd_hi (q n d : Int) (h1 : ¬ d < 1) (h2 : n < d) {w : World} (hC : ∀ wx, Calls Try.prog 47 #[.int .i64 q, .int .i64 n, .int .i64 d] wx fun e w' => e = .returned (.int .i64 10) ∧ Below wx.heap.size wx w') :
    Calls Try.prog 13 #[.int .i64 q, .int .i64 n, .int .i64 d, .int .i64 0] w fun e w' => e = .returned (.bool true) ∧ Below w.heap.size w w' := by
  have HE : Hid ((10 : Int) ≠ 0) := (by decide : (10 : Int) ≠ 0)
  have h2b : d > n := h2
  have HC : Hid (∀ wx, Calls Try.prog 47 #[.int .i64 q, .int .i64 n, .int .i64 d] wx fun e w' => e = .returned (.int .i64 10) ∧ Below wx.heap.size wx w') := hC
  obtain ⟨wa, hwa⟩ : ∃ wa, wa = w.alloc (.cells #[.int .i64 0, .int .i64 0, .int .i64 0, .int .i64 0] 3) := ⟨_, rfl⟩
  have HA : Hid (Below w.heap.size w wa ∧ Four w.heap.size 0 0 0 0 wa) := by
    rw [hwa]; exact ⟨(Below.refl _ _).alloc (Nat.le_refl _) _, four_alloc _ _ _ _ _⟩
  clear hC
  go_enter Try.func13, Try.ntmps13
  go_wp2_with fail
  rw [← hwa]
  refine (wH_err _ _ _ 10 HE.out (HC.out _)).mono ?_
  rintro e w5 ⟨rfl, hb⟩
  have H5 : Hid (Below w.heap.size w w5 ∧ Four w.heap.size 0 0 0 0 w5) := ⟨bel_up' HA.out.1 hb, HA.out.2.below hb⟩
  clear hb HA
  go_wp2_with fail
  refine (wS_err _ _ _ 10 HE.out (HC.out _)).mono ?_
  rintro e w6 ⟨rfl, hb⟩
  have H6 : Hid (Below w.heap.size w w6 ∧ Four w.heap.size 0 0 0 0 w6) := ⟨bel_up' H5.out.1 hb, H5.out.2.below hb⟩
  clear hb H5
  go_wp2_with fail
  refine (wP_err _ _ _ 10 HE.out (HC.out _)).mono ?_
  rintro e w7 ⟨rfl, hb⟩
  have H7 : Hid (Below w.heap.size w w7 ∧ Four w.heap.size 0 0 0 0 w7) := ⟨bel_up' H6.out.1 hb, H6.out.2.below hb⟩
  clear hb H6
  go_wp2_with fail
  refine (wV_err _ _ _ 10 HE.out (HC.out _)).mono ?_
  rintro e w8 ⟨rfl, hb⟩
  have H8 : Hid (Below w.heap.size w w8 ∧ Four w.heap.size 0 0 0 0 w8) := ⟨bel_up' H7.out.1 hb, H7.out.2.below hb⟩
  clear hb H7
  have c0 := H8.out.2.c0
  have c1 := H8.out.2.c1
  have c2 := H8.out.2.c2
  have c3 := H8.out.2.c3
  go_wp2_with (go_at_call 12; refine (num_err 10 HE.out 0 _).mono ?_; rintro e w' ⟨rfl, hw⟩; have hw := hw.symm; subst hw)
  go_ret
  exact ⟨rfl, H8.out.1⟩
end Go.Proofs.Ytnjbnamcedfjaaa
