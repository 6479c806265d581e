/- The walk of the statement TopField. -/
import Derived.Test.YtmnkablobhdbjaaZD1
namespace Go.Proofs.Ytmnkablobhdbjaa
open Go.RowKit

theorem pick_nat (c : Int) {n : Nat} (h : 0 < n) : ∃ x : Nat, pick c n = x ∧ x < n := by
  have h1 := pick_lo c n (by omega)
  have h2 := pick_hi c n (by omega)
  exact ⟨(pick c n).toNat, by omega, by omega⟩
theorem eq_true' {a b : Int} (h : a = b) : (a == b) = true := beq_iff_eq.2 h
theorem eq_false' {a b : Int} (h : a ≠ b) : (a == b) = false := beq_eq_false_iff_ne.2 h

theorem below_drewN' {B : Nat} {w w' : World} (h : Below B w w') (n : Nat) : Below B w (w'.drewN n) := ⟨h.os, h.tape, h.output, h.size, h.block⟩
theorem logZ_bd {D : FD} (hD : D ∈ fieldsL) {x : Nat} (hx : x < D.q) : -1 ≤ D.logZ x ∧ D.logZ x ≤ 64 := by
  have F := fld hD
  have := F.q64
  rw [FD.logZ]
  split
  · rename_i h
    have := (F.lg_is x hx (by omega)).1
    rw [Int.toNat_natCast]; omega
  · omega

set_option maxHeartbeats 8000000 in
set_option maxRecDepth 100000 in
theorem topField_walk (q0 a0 b0 c0 : Int) (w : World) (hq1 : -9223372036854775808 ≤ q0) (hq2 : q0 ≤ 9223372036854775807) (ha1 : -9223372036854775808 ≤ a0) (ha2 : a0 ≤ 9223372036854775807)
    (hb1 : -9223372036854775808 ≤ b0) (hb2 : b0 ≤ 9223372036854775807) (hc1 : -9223372036854775808 ≤ c0) (hc2 : c0 ≤ 9223372036854775807) :
    Calls Try.prog 8 #[.int .i64 q0, .int .i64 a0, .int .i64 b0, .int .i64 c0] w fun e w' => e = .returned (.bool true) ∧ Below w.heap.size w w' := by
  go_enter Try.func8, Try.ntmps8
  go_wp2_with fail
  refine (fieldOf_any q0 w hq1 hq2).mono ?_
  rintro e w1 ⟨D, F, T, g, hD, hs, rfl, hat, hF, hT, hbel⟩
  have h2 := (fld hD).q2
  have h64 := (fld hD).q64
  obtain ⟨x, hx, hxq⟩ := pick_nat a0 (show 0 < D.q from by omega)
  obtain ⟨y, hy, hyq⟩ := pick_nat b0 (show 0 < D.q from by omega)
  obtain ⟨z, hz, hzq⟩ := pick_nat c0 (show 0 < D.q from by omega)
  have HP : Hid ((∀ w1 : World, Calls Try.prog 42 #[.int .i64 a0, .int .i64 (D.q : Int)] w1 fun e w' => e = .returned (.int .i64 (x : Int)) ∧ w' = w1) ∧
      (∀ w1 : World, Calls Try.prog 42 #[.int .i64 b0, .int .i64 (D.q : Int)] w1 fun e w' => e = .returned (.int .i64 (y : Int)) ∧ w' = w1) ∧
      (∀ w1 : World, Calls Try.prog 42 #[.int .i64 c0, .int .i64 (D.q : Int)] w1 fun e w' => e = .returned (.int .i64 (z : Int)) ∧ w' = w1)) :=
    ⟨fun w1 => by rw [← hx]; exact pick_any a0 _ w1 ha1 ha2 (by omega) (by omega), fun w1 => by rw [← hy]; exact pick_any b0 _ w1 hb1 hb2 (by omega) (by omega), fun w1 => by rw [← hz]; exact pick_any c0 _ w1 hc1 hc2 (by omega) (by omega)⟩
  have HA : Hid (FAt F T D g w1) := hat
  have HD : Hid (D ∈ fieldsL) := hD
  have HB : Hid (Below w.heap.size w w1) := hbel
  have e1 := t1 hD hxq hyq
  have e2 := t2 hD hxq hyq
  have e3 := t3 hD hxq hyq hzq
  have e4 := t4 hD hxq hyq hzq
  have e5 := t5 hD hxq hyq hzq
  have e6 := t6 hD hxq
  have e7 := t7 hD hxq
  have e8 := t8 hD hxq
  have e9 := t9 hD hxq hyq
  have HT : Hid (x < D.q) := hxq
  clear hat hbel hx hy hz hs hD hF hT
  go_wp2_with fail
  refine (size_any HA.out).mono ?_
  rintro e w' ⟨rfl, rfl⟩
  go_wp2_with fail
  refine (HP.out.1 _).mono ?_
  rintro e w' ⟨rfl, rfl⟩
  go_wp2_with fail
  refine (HP.out.2.1 _).mono ?_
  rintro e w' ⟨rfl, rfl⟩
  go_wp2_with fail
  refine (HP.out.2.2 _).mono ?_
  rintro e w' ⟨rfl, rfl⟩
  by_cases h0 : x = 0
  · have i1 := eq_true' (inv_zero HT.out h0)
    have i2 : ((x : Int) == 0) = true := eq_true' (by omega)
    clear h0
    go_wp2_with (first
      | (go_at_call 19; refine (add_any HD.out (by first | exact HA.out | exact HA.out.drewN _) _ _).mono ?_; rintro e w' ⟨rfl, n, rfl⟩)
      | (go_at_call 23; refine (mul_any HD.out (by first | exact HA.out | exact HA.out.drewN _) _ _).mono ?_; rintro e w' ⟨rfl, n, rfl⟩)
      | (go_at_call 25; refine (neg_any HD.out (by first | exact HA.out | exact HA.out.drewN _) _).mono ?_; rintro e w' ⟨rfl, n, rfl⟩)
      | (go_at_call 21; refine (sub_any HD.out (by first | exact HA.out | exact HA.out.drewN _) _ _).mono ?_; rintro e w' ⟨rfl, n, rfl⟩)
      | (go_at_call 27; refine (inv_any HD.out (by first | exact HA.out | exact HA.out.drewN _) _).mono ?_; rintro e w' ⟨rfl, n, rfl⟩))
    go_ret
    exact ⟨rfl, below_drewN' HB.out _⟩
  · have i1 : (D.powZ x (-1) == -1) = false := eq_false' (by rw [inv_nat HD.out HT.out h0]; omega)
    have i2 : ((x : Int) == 0) = false := eq_false' (by omega)
    have i3 := eq_true' (t11 HD.out HT.out h0)
    have i4 := eq_true' (t12 HD.out HT.out h0)
    have i5 := logZ_bd HD.out HT.out
    clear h0
    go_wp2_with (first
      | (go_at_call 19; refine (add_any HD.out (by first | exact HA.out | exact HA.out.drewN _) _ _).mono ?_; rintro e w' ⟨rfl, n, rfl⟩)
      | (go_at_call 23; refine (mul_any HD.out (by first | exact HA.out | exact HA.out.drewN _) _ _).mono ?_; rintro e w' ⟨rfl, n, rfl⟩)
      | (go_at_call 25; refine (neg_any HD.out (by first | exact HA.out | exact HA.out.drewN _) _).mono ?_; rintro e w' ⟨rfl, n, rfl⟩)
      | (go_at_call 21; refine (sub_any HD.out (by first | exact HA.out | exact HA.out.drewN _) _ _).mono ?_; rintro e w' ⟨rfl, n, rfl⟩)
      | (go_at_call 27; refine (inv_any HD.out (by first | exact HA.out | exact HA.out.drewN _) _).mono ?_; rintro e w' ⟨rfl, n, rfl⟩)
      | (go_at_call 14; refine (gen_any (by first | exact HA.out | exact HA.out.drewN _)).mono ?_; rintro e w' ⟨rfl, rfl⟩)
      | (go_at_call 31; refine (log_any HD.out (by first | exact HA.out | exact HA.out.drewN _) _).mono ?_; rintro e w' ⟨rfl, rfl⟩)
      | (go_at_call 29; refine (pow_any HD.out (by first | exact HA.out | exact HA.out.drewN _) _ _ (by omega) (by omega)).mono ?_; rintro e w' ⟨rfl, n, rfl⟩))
    go_ret
    exact ⟨rfl, below_drewN' HB.out _⟩
end Go.Proofs.Ytmnkablobhdbjaa
