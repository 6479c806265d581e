/- WeightsSay's walk (printed by make/kb10.py). -/
import Derived.Test.YtnjbnamcedfjaaaZKA7
import Derived.Test.YtnjbnamcedfjaaaZKB4
import Derived.Test.YtnjbnamcedfjaaaZKB9
namespace Go.Proofs.Ytnjbnamcedfjaaa
open Go.RowKit Go.Sort

set_option maxHeartbeats 4000000 in
set_option maxRecDepth 100000 in
theorem wy_err (q n d x e0 : Int) (h0 : e0 ≠ 0) {ao : Option Addr} {N cap : Nat} {f : Nat → Int} (hN : N ≤ 100)  {w : World} (hX : Arg ao N cap f w)
    (hK : ∀ wx, Calls Try.prog 8 #[.int .i64 q, .int .i64 n] wx fun e w' => e = .returned (.int .i64 e0) ∧ Below wx.heap.size wx w')
    (hC : ∀ wx, Calls Try.prog 11 #[.int .i64 q, .int .i64 n] wx fun e w' => e = .returned (.int .i64 e0) ∧ Below wx.heap.size wx w')
    (hR : ∀ wx, Calls Try.prog 10 #[.int .i64 q, .int .i64 n, .int .i64 d, .int .i64 x] wx fun e w' => e = .returned (.tuple #[.int .i64 0, .int .i64 e0]) ∧ Below wx.heap.size wx w')
    (hB : ∀ wx, Calls Try.prog 13 #[.int .i64 q, .int .i64 n, .int .i64 d, .int .i64 e0] wx fun e w' => e = .returned (.bool true) ∧ Below wx.heap.size wx w')
    (hG : ∀ wx, Calls Try.prog 15 #[.int .i64 q, .int .i64 n, .int .i64 d] wx fun e w' => e = .returned (.bool true) ∧ Below wx.heap.size wx w') :
    Calls Try.prog 3 #[.int .i64 q, .int .i64 n, .int .i64 d, .int .i64 x, .slice ao N cap] w fun e w' => e = .returned (.bool true) ∧ Below w.heap.size w w' := by
  have HK : Hid (∀ wx, Calls Try.prog 8 #[.int .i64 q, .int .i64 n] wx fun e w' => e = .returned (.int .i64 e0) ∧ Below wx.heap.size wx w') := hK
  have HC : Hid (∀ wx, Calls Try.prog 11 #[.int .i64 q, .int .i64 n] wx fun e w' => e = .returned (.int .i64 e0) ∧ Below wx.heap.size wx w') := hC
  have HR : Hid (∀ wx, Calls Try.prog 10 #[.int .i64 q, .int .i64 n, .int .i64 d, .int .i64 x] wx fun e w' => e = .returned (.tuple #[.int .i64 0, .int .i64 e0]) ∧ Below wx.heap.size wx w') := hR
  have HB : Hid (∀ wx, Calls Try.prog 13 #[.int .i64 q, .int .i64 n, .int .i64 d, .int .i64 e0] wx fun e w' => e = .returned (.bool true) ∧ Below wx.heap.size wx w') := hB
  have HG : Hid (∀ wx, Calls Try.prog 15 #[.int .i64 q, .int .i64 n, .int .i64 d] wx fun e w' => e = .returned (.bool true) ∧ Below wx.heap.size wx w') := hG
  have HX : Hid (Arg ao N cap f w) := hX
  have hNb : ¬ (N : Int) > 100 := by omega
  have hNb2 : ¬ (100 : Int) < (N : Int) := by omega
  have hz : (e0 == 0) = false := by rw [beq_eq_false_iff_ne]; exact h0
  have hz2 : decide (e0 = 0) = false := by rw [decide_eq_false_iff_not]; exact h0
  have HE : Hid (e0 ≠ 0) := h0
  clear hX hK hC hR hB hG
  go_enter Try.func3, Try.ntmps3
  go_wp2_with fail
  refine (HK.out _).mono ?_
  rintro e w1 ⟨rfl, hb⟩
  have H1 : Hid (Below w.heap.size w w1) := hb
  clear hb
  go_wp2_with fail
  refine (HR.out _).mono ?_
  rintro e w2 ⟨rfl, hb⟩
  have H2 : Hid (Below w.heap.size w w2) := bel_up' H1.out hb
  clear hb H1
  go_wp2_with fail
  refine (HC.out _).mono ?_
  rintro e w3 ⟨rfl, hb⟩
  have H3 : Hid (Below w.heap.size w w3) := bel_up' H2.out hb
  clear hb H2
  go_wp2_with fail
  refine (num_err e0 HE.out 0 _).mono ?_
  rintro e w' ⟨rfl, hw⟩
  have hw := hw.symm
  subst hw
  go_wp2_with fail
  refine (HB.out _).mono ?_
  rintro e w4 ⟨rfl, hb⟩
  have H4 : Hid (Below w.heap.size w w4) := bel_up' H3.out hb
  clear hb H3
  go_wp2_with fail
  refine (lt_any _ hN (HX.out.below H4.out)).mono ?_
  rintro e w5 ⟨rfl, hb⟩
  have H5 : Hid (Below w.heap.size w w5) := bel_up' H4.out hb
  clear hb H4
  go_wp2_with fail
  refine (HG.out _).mono ?_
  rintro e w6 ⟨rfl, hb⟩
  have H6 : Hid (Below w.heap.size w w6) := bel_up' H5.out hb
  clear hb H5
  go_wp2
  go_ret
  exact ⟨rfl, H6.out⟩

set_option maxHeartbeats 4000000 in
set_option maxRecDepth 100000 in
theorem wy_p1 (q n d x : Int) (h1 : d < 0) {ao : Option Addr} {N cap : Nat} {f : Nat → Int} (hN : N ≤ 100)  {w : World} (hX : Arg ao N cap f w)
    (hK : ∀ wx, Calls Try.prog 8 #[.int .i64 q, .int .i64 n] wx fun e w' => e = .returned (.int .i64 0) ∧ Below wx.heap.size wx w')
    (hC : ∀ wx, Calls Try.prog 11 #[.int .i64 q, .int .i64 n] wx fun e w' => e = .returned (.int .i64 0) ∧ Below wx.heap.size wx w')
    (hR : ∀ wx, Calls Try.prog 10 #[.int .i64 q, .int .i64 n, .int .i64 d, .int .i64 x] wx fun e w' => e = .returned (.tuple #[.int .i64 0, .int .i64 10]) ∧ Below wx.heap.size wx w')
    (hB : ∀ wx, Calls Try.prog 13 #[.int .i64 q, .int .i64 n, .int .i64 d, .int .i64 0] wx fun e w' => e = .returned (.bool true) ∧ Below wx.heap.size wx w')
    (hG : ∀ wx, Calls Try.prog 15 #[.int .i64 q, .int .i64 n, .int .i64 d] wx fun e w' => e = .returned (.bool true) ∧ Below wx.heap.size wx w') :
    Calls Try.prog 3 #[.int .i64 q, .int .i64 n, .int .i64 d, .int .i64 x, .slice ao N cap] w fun e w' => e = .returned (.bool true) ∧ Below w.heap.size w w' := by
  have HK : Hid (∀ wx, Calls Try.prog 8 #[.int .i64 q, .int .i64 n] wx fun e w' => e = .returned (.int .i64 0) ∧ Below wx.heap.size wx w') := hK
  have HC : Hid (∀ wx, Calls Try.prog 11 #[.int .i64 q, .int .i64 n] wx fun e w' => e = .returned (.int .i64 0) ∧ Below wx.heap.size wx w') := hC
  have HR : Hid (∀ wx, Calls Try.prog 10 #[.int .i64 q, .int .i64 n, .int .i64 d, .int .i64 x] wx fun e w' => e = .returned (.tuple #[.int .i64 0, .int .i64 10]) ∧ Below wx.heap.size wx w') := hR
  have HB : Hid (∀ wx, Calls Try.prog 13 #[.int .i64 q, .int .i64 n, .int .i64 d, .int .i64 0] wx fun e w' => e = .returned (.bool true) ∧ Below wx.heap.size wx w') := hB
  have HG : Hid (∀ wx, Calls Try.prog 15 #[.int .i64 q, .int .i64 n, .int .i64 d] wx fun e w' => e = .returned (.bool true) ∧ Below wx.heap.size wx w') := hG
  have HX : Hid (Arg ao N cap f w) := hX
  have hNb : ¬ (N : Int) > 100 := by omega
  have hNb2 : ¬ (100 : Int) < (N : Int) := by omega
  have HE : Hid ((10 : Int) ≠ 0) := (by decide : (10 : Int) ≠ 0)
  clear hX hK hC hR hB hG
  go_enter Try.func3, Try.ntmps3
  go_wp2_with fail
  refine (HK.out _).mono ?_
  rintro e w1 ⟨rfl, hb⟩
  have H1 : Hid (Below w.heap.size w w1) := hb
  clear hb
  go_wp2_with fail
  refine (HR.out _).mono ?_
  rintro e w2 ⟨rfl, hb⟩
  have H2 : Hid (Below w.heap.size w w2) := bel_up' H1.out hb
  clear hb H1
  go_wp2_with fail
  refine (HC.out _).mono ?_
  rintro e w3 ⟨rfl, hb⟩
  have H3 : Hid (Below w.heap.size w w3) := bel_up' H2.out hb
  clear hb H2
  go_wp2_with fail
  refine (num_err 10 HE.out 0 _).mono ?_
  rintro e w' ⟨rfl, hw⟩
  have hw := hw.symm
  subst hw
  go_wp2_with fail
  refine (HB.out _).mono ?_
  rintro e w4 ⟨rfl, hb⟩
  have H4 : Hid (Below w.heap.size w w4) := bel_up' H3.out hb
  clear hb H3
  go_wp2_with fail
  refine (lt_any _ hN (HX.out.below H4.out)).mono ?_
  rintro e w5 ⟨rfl, hb⟩
  have H5 : Hid (Below w.heap.size w w5) := bel_up' H4.out hb
  clear hb H4
  go_wp2_with fail
  refine (HG.out _).mono ?_
  rintro e w6 ⟨rfl, hb⟩
  have H6 : Hid (Below w.heap.size w w6) := bel_up' H5.out hb
  clear hb H5
  go_wp2
  go_ret
  exact ⟨rfl, H6.out⟩

set_option maxHeartbeats 4000000 in
set_option maxRecDepth 100000 in
theorem wy_p2 (q n d x : Int) (h1 : ¬ d < 0) (h2 : n < d) {ao : Option Addr} {N cap : Nat} {f : Nat → Int} (hN : N ≤ 100)  {w : World} (hX : Arg ao N cap f w)
    (hK : ∀ wx, Calls Try.prog 8 #[.int .i64 q, .int .i64 n] wx fun e w' => e = .returned (.int .i64 0) ∧ Below wx.heap.size wx w')
    (hC : ∀ wx, Calls Try.prog 11 #[.int .i64 q, .int .i64 n] wx fun e w' => e = .returned (.int .i64 0) ∧ Below wx.heap.size wx w')
    (hR : ∀ wx, Calls Try.prog 10 #[.int .i64 q, .int .i64 n, .int .i64 d, .int .i64 x] wx fun e w' => e = .returned (.tuple #[.int .i64 0, .int .i64 10]) ∧ Below wx.heap.size wx w')
    (hB : ∀ wx, Calls Try.prog 13 #[.int .i64 q, .int .i64 n, .int .i64 d, .int .i64 0] wx fun e w' => e = .returned (.bool true) ∧ Below wx.heap.size wx w')
    (hG : ∀ wx, Calls Try.prog 15 #[.int .i64 q, .int .i64 n, .int .i64 d] wx fun e w' => e = .returned (.bool true) ∧ Below wx.heap.size wx w') :
    Calls Try.prog 3 #[.int .i64 q, .int .i64 n, .int .i64 d, .int .i64 x, .slice ao N cap] w fun e w' => e = .returned (.bool true) ∧ Below w.heap.size w w' := by
  have HK : Hid (∀ wx, Calls Try.prog 8 #[.int .i64 q, .int .i64 n] wx fun e w' => e = .returned (.int .i64 0) ∧ Below wx.heap.size wx w') := hK
  have HC : Hid (∀ wx, Calls Try.prog 11 #[.int .i64 q, .int .i64 n] wx fun e w' => e = .returned (.int .i64 0) ∧ Below wx.heap.size wx w') := hC
  have HR : Hid (∀ wx, Calls Try.prog 10 #[.int .i64 q, .int .i64 n, .int .i64 d, .int .i64 x] wx fun e w' => e = .returned (.tuple #[.int .i64 0, .int .i64 10]) ∧ Below wx.heap.size wx w') := hR
  have HB : Hid (∀ wx, Calls Try.prog 13 #[.int .i64 q, .int .i64 n, .int .i64 d, .int .i64 0] wx fun e w' => e = .returned (.bool true) ∧ Below wx.heap.size wx w') := hB
  have HG : Hid (∀ wx, Calls Try.prog 15 #[.int .i64 q, .int .i64 n, .int .i64 d] wx fun e w' => e = .returned (.bool true) ∧ Below wx.heap.size wx w') := hG
  have HX : Hid (Arg ao N cap f w) := hX
  have hNb : ¬ (N : Int) > 100 := by omega
  have hNb2 : ¬ (100 : Int) < (N : Int) := by omega
  have HE : Hid ((10 : Int) ≠ 0) := (by decide : (10 : Int) ≠ 0)
  have h2b : d > n := h2
  clear hX hK hC hR hB hG
  go_enter Try.func3, Try.ntmps3
  go_wp2_with fail
  refine (HK.out _).mono ?_
  rintro e w1 ⟨rfl, hb⟩
  have H1 : Hid (Below w.heap.size w w1) := hb
  clear hb
  go_wp2_with fail
  refine (HR.out _).mono ?_
  rintro e w2 ⟨rfl, hb⟩
  have H2 : Hid (Below w.heap.size w w2) := bel_up' H1.out hb
  clear hb H1
  go_wp2_with fail
  refine (HC.out _).mono ?_
  rintro e w3 ⟨rfl, hb⟩
  have H3 : Hid (Below w.heap.size w w3) := bel_up' H2.out hb
  clear hb H2
  go_wp2_with fail
  refine (num_err 10 HE.out 0 _).mono ?_
  rintro e w' ⟨rfl, hw⟩
  have hw := hw.symm
  subst hw
  go_wp2_with fail
  refine (HB.out _).mono ?_
  rintro e w4 ⟨rfl, hb⟩
  have H4 : Hid (Below w.heap.size w w4) := bel_up' H3.out hb
  clear hb H3
  go_wp2_with fail
  refine (lt_any _ hN (HX.out.below H4.out)).mono ?_
  rintro e w5 ⟨rfl, hb⟩
  have H5 : Hid (Below w.heap.size w w5) := bel_up' H4.out hb
  clear hb H4
  go_wp2_with fail
  refine (HG.out _).mono ?_
  rintro e w6 ⟨rfl, hb⟩
  have H6 : Hid (Below w.heap.size w w6) := bel_up' H5.out hb
  clear hb H5
  go_wp2
  go_ret
  exact ⟨rfl, H6.out⟩

set_option maxHeartbeats 4000000 in
set_option maxRecDepth 100000 in
theorem wy_p3 (q n d x : Int) (h1 : ¬ d < 0) (h2 : ¬ n < d) (h3 : x < 0) {ao : Option Addr} {N cap : Nat} {f : Nat → Int} (hN : N ≤ 100)  {w : World} (hX : Arg ao N cap f w)
    (hK : ∀ wx, Calls Try.prog 8 #[.int .i64 q, .int .i64 n] wx fun e w' => e = .returned (.int .i64 0) ∧ Below wx.heap.size wx w')
    (hC : ∀ wx, Calls Try.prog 11 #[.int .i64 q, .int .i64 n] wx fun e w' => e = .returned (.int .i64 0) ∧ Below wx.heap.size wx w')
    (hR : ∀ wx, Calls Try.prog 10 #[.int .i64 q, .int .i64 n, .int .i64 d, .int .i64 x] wx fun e w' => e = .returned (.tuple #[.int .i64 0, .int .i64 10]) ∧ Below wx.heap.size wx w')
    (hB : ∀ wx, Calls Try.prog 13 #[.int .i64 q, .int .i64 n, .int .i64 d, .int .i64 0] wx fun e w' => e = .returned (.bool true) ∧ Below wx.heap.size wx w')
    (hG : ∀ wx, Calls Try.prog 15 #[.int .i64 q, .int .i64 n, .int .i64 d] wx fun e w' => e = .returned (.bool true) ∧ Below wx.heap.size wx w') :
    Calls Try.prog 3 #[.int .i64 q, .int .i64 n, .int .i64 d, .int .i64 x, .slice ao N cap] w fun e w' => e = .returned (.bool true) ∧ Below w.heap.size w w' := by
  have HK : Hid (∀ wx, Calls Try.prog 8 #[.int .i64 q, .int .i64 n] wx fun e w' => e = .returned (.int .i64 0) ∧ Below wx.heap.size wx w') := hK
  have HC : Hid (∀ wx, Calls Try.prog 11 #[.int .i64 q, .int .i64 n] wx fun e w' => e = .returned (.int .i64 0) ∧ Below wx.heap.size wx w') := hC
  have HR : Hid (∀ wx, Calls Try.prog 10 #[.int .i64 q, .int .i64 n, .int .i64 d, .int .i64 x] wx fun e w' => e = .returned (.tuple #[.int .i64 0, .int .i64 10]) ∧ Below wx.heap.size wx w') := hR
  have HB : Hid (∀ wx, Calls Try.prog 13 #[.int .i64 q, .int .i64 n, .int .i64 d, .int .i64 0] wx fun e w' => e = .returned (.bool true) ∧ Below wx.heap.size wx w') := hB
  have HG : Hid (∀ wx, Calls Try.prog 15 #[.int .i64 q, .int .i64 n, .int .i64 d] wx fun e w' => e = .returned (.bool true) ∧ Below wx.heap.size wx w') := hG
  have HX : Hid (Arg ao N cap f w) := hX
  have hNb : ¬ (N : Int) > 100 := by omega
  have hNb2 : ¬ (100 : Int) < (N : Int) := by omega
  have HE : Hid ((10 : Int) ≠ 0) := (by decide : (10 : Int) ≠ 0)
  have h2b : ¬ d > n := h2
  clear hX hK hC hR hB hG
  go_enter Try.func3, Try.ntmps3
  go_wp2_with fail
  refine (HK.out _).mono ?_
  rintro e w1 ⟨rfl, hb⟩
  have H1 : Hid (Below w.heap.size w w1) := hb
  clear hb
  go_wp2_with fail
  refine (HR.out _).mono ?_
  rintro e w2 ⟨rfl, hb⟩
  have H2 : Hid (Below w.heap.size w w2) := bel_up' H1.out hb
  clear hb H1
  go_wp2_with fail
  refine (HC.out _).mono ?_
  rintro e w3 ⟨rfl, hb⟩
  have H3 : Hid (Below w.heap.size w w3) := bel_up' H2.out hb
  clear hb H2
  go_wp2_with fail
  refine (num_err 10 HE.out 0 _).mono ?_
  rintro e w' ⟨rfl, hw⟩
  have hw := hw.symm
  subst hw
  go_wp2_with fail
  refine (HB.out _).mono ?_
  rintro e w4 ⟨rfl, hb⟩
  have H4 : Hid (Below w.heap.size w w4) := bel_up' H3.out hb
  clear hb H3
  go_wp2_with fail
  refine (lt_any _ hN (HX.out.below H4.out)).mono ?_
  rintro e w5 ⟨rfl, hb⟩
  have H5 : Hid (Below w.heap.size w w5) := bel_up' H4.out hb
  clear hb H4
  go_wp2_with fail
  refine (HG.out _).mono ?_
  rintro e w6 ⟨rfl, hb⟩
  have H6 : Hid (Below w.heap.size w w6) := bel_up' H5.out hb
  clear hb H5
  go_wp2
  go_ret
  exact ⟨rfl, H6.out⟩

set_option maxHeartbeats 4000000 in
set_option maxRecDepth 100000 in
theorem wy_p4 (q n d x : Int) (h1 : ¬ d < 0) (h2 : ¬ n < d) (h3 : ¬ x < 0) (h4 : n < x) {ao : Option Addr} {N cap : Nat} {f : Nat → Int} (hN : N ≤ 100)  {w : World} (hX : Arg ao N cap f w)
    (hK : ∀ wx, Calls Try.prog 8 #[.int .i64 q, .int .i64 n] wx fun e w' => e = .returned (.int .i64 0) ∧ Below wx.heap.size wx w')
    (hC : ∀ wx, Calls Try.prog 11 #[.int .i64 q, .int .i64 n] wx fun e w' => e = .returned (.int .i64 0) ∧ Below wx.heap.size wx w')
    (hR : ∀ wx, Calls Try.prog 10 #[.int .i64 q, .int .i64 n, .int .i64 d, .int .i64 x] wx fun e w' => e = .returned (.tuple #[.int .i64 0, .int .i64 10]) ∧ Below wx.heap.size wx w')
    (hB : ∀ wx, Calls Try.prog 13 #[.int .i64 q, .int .i64 n, .int .i64 d, .int .i64 0] wx fun e w' => e = .returned (.bool true) ∧ Below wx.heap.size wx w')
    (hG : ∀ wx, Calls Try.prog 15 #[.int .i64 q, .int .i64 n, .int .i64 d] wx fun e w' => e = .returned (.bool true) ∧ Below wx.heap.size wx w') :
    Calls Try.prog 3 #[.int .i64 q, .int .i64 n, .int .i64 d, .int .i64 x, .slice ao N cap] w fun e w' => e = .returned (.bool true) ∧ Below w.heap.size w w' := by
  have HK : Hid (∀ wx, Calls Try.prog 8 #[.int .i64 q, .int .i64 n] wx fun e w' => e = .returned (.int .i64 0) ∧ Below wx.heap.size wx w') := hK
  have HC : Hid (∀ wx, Calls Try.prog 11 #[.int .i64 q, .int .i64 n] wx fun e w' => e = .returned (.int .i64 0) ∧ Below wx.heap.size wx w') := hC
  have HR : Hid (∀ wx, Calls Try.prog 10 #[.int .i64 q, .int .i64 n, .int .i64 d, .int .i64 x] wx fun e w' => e = .returned (.tuple #[.int .i64 0, .int .i64 10]) ∧ Below wx.heap.size wx w') := hR
  have HB : Hid (∀ wx, Calls Try.prog 13 #[.int .i64 q, .int .i64 n, .int .i64 d, .int .i64 0] wx fun e w' => e = .returned (.bool true) ∧ Below wx.heap.size wx w') := hB
  have HG : Hid (∀ wx, Calls Try.prog 15 #[.int .i64 q, .int .i64 n, .int .i64 d] wx fun e w' => e = .returned (.bool true) ∧ Below wx.heap.size wx w') := hG
  have HX : Hid (Arg ao N cap f w) := hX
  have hNb : ¬ (N : Int) > 100 := by omega
  have hNb2 : ¬ (100 : Int) < (N : Int) := by omega
  have HE : Hid ((10 : Int) ≠ 0) := (by decide : (10 : Int) ≠ 0)
  have h2b : ¬ d > n := h2
  have h4b : x > n := h4
  clear hX hK hC hR hB hG
  go_enter Try.func3, Try.ntmps3
  go_wp2_with fail
  refine (HK.out _).mono ?_
  rintro e w1 ⟨rfl, hb⟩
  have H1 : Hid (Below w.heap.size w w1) := hb
  clear hb
  go_wp2_with fail
  refine (HR.out _).mono ?_
  rintro e w2 ⟨rfl, hb⟩
  have H2 : Hid (Below w.heap.size w w2) := bel_up' H1.out hb
  clear hb H1
  go_wp2_with fail
  refine (HC.out _).mono ?_
  rintro e w3 ⟨rfl, hb⟩
  have H3 : Hid (Below w.heap.size w w3) := bel_up' H2.out hb
  clear hb H2
  go_wp2_with fail
  refine (num_err 10 HE.out 0 _).mono ?_
  rintro e w' ⟨rfl, hw⟩
  have hw := hw.symm
  subst hw
  go_wp2_with fail
  refine (HB.out _).mono ?_
  rintro e w4 ⟨rfl, hb⟩
  have H4 : Hid (Below w.heap.size w w4) := bel_up' H3.out hb
  clear hb H3
  go_wp2_with fail
  refine (lt_any _ hN (HX.out.below H4.out)).mono ?_
  rintro e w5 ⟨rfl, hb⟩
  have H5 : Hid (Below w.heap.size w w5) := bel_up' H4.out hb
  clear hb H4
  go_wp2_with fail
  refine (HG.out _).mono ?_
  rintro e w6 ⟨rfl, hb⟩
  have H6 : Hid (Below w.heap.size w w6) := bel_up' H5.out hb
  clear hb H5
  go_wp2
  go_ret
  exact ⟨rfl, H6.out⟩

set_option maxHeartbeats 4000000 in
set_option maxRecDepth 100000 in
theorem wy_ok {q n d x : Nat} (hd : d ≤ n) (hx : x ≤ n) (z : Int) {ao : Option Addr} {N cap : Nat} {f : Nat → Int} (hN : N ≤ 100)  {w : World} (hX : Arg ao N cap f w)
    (hK : ∀ wx, Calls Try.prog 8 #[.int .i64 (q : Nat), .int .i64 (n : Nat)] wx fun e w' => e = .returned (.int .i64 0) ∧ Below wx.heap.size wx w')
    (hC : ∀ wx, Calls Try.prog 11 #[.int .i64 (q : Nat), .int .i64 (n : Nat)] wx fun e w' => e = .returned (.int .i64 0) ∧ Below wx.heap.size wx w')
    (hR : ∀ wx, Calls Try.prog 10 #[.int .i64 (q : Nat), .int .i64 (n : Nat), .int .i64 (d : Nat), .int .i64 (x : Nat)] wx fun e w' => e = .returned (.tuple #[.int .i64 z, .int .i64 0]) ∧ Below wx.heap.size wx w')
    (hB : ∀ wx, Calls Try.prog 13 #[.int .i64 (q : Nat), .int .i64 (n : Nat), .int .i64 (d : Nat), .int .i64 0] wx fun e w' => e = .returned (.bool true) ∧ Below wx.heap.size wx w')
    (hG : ∀ wx, Calls Try.prog 15 #[.int .i64 (q : Nat), .int .i64 (n : Nat), .int .i64 (d : Nat)] wx fun e w' => e = .returned (.bool true) ∧ Below wx.heap.size wx w')
    (hW : ∀ wx, Calls Try.prog 9 #[.int .i64 (q : Nat), .int .i64 (n : Nat), .int .i64 (d : Nat), .int .i64 (x : Nat)] wx fun e w' => e = .returned (.int .i64 z) ∧ Below wx.heap.size wx w') :
    Calls Try.prog 3 #[.int .i64 (q : Nat), .int .i64 (n : Nat), .int .i64 (d : Nat), .int .i64 (x : Nat), .slice ao N cap] w fun e w' => e = .returned (.bool true) ∧ Below w.heap.size w w' := by
  have HK : Hid (∀ wx, Calls Try.prog 8 #[.int .i64 (q : Nat), .int .i64 (n : Nat)] wx fun e w' => e = .returned (.int .i64 0) ∧ Below wx.heap.size wx w') := hK
  have HC : Hid (∀ wx, Calls Try.prog 11 #[.int .i64 (q : Nat), .int .i64 (n : Nat)] wx fun e w' => e = .returned (.int .i64 0) ∧ Below wx.heap.size wx w') := hC
  have HR : Hid (∀ wx, Calls Try.prog 10 #[.int .i64 (q : Nat), .int .i64 (n : Nat), .int .i64 (d : Nat), .int .i64 (x : Nat)] wx fun e w' => e = .returned (.tuple #[.int .i64 z, .int .i64 0]) ∧ Below wx.heap.size wx w') := hR
  have HB : Hid (∀ wx, Calls Try.prog 13 #[.int .i64 (q : Nat), .int .i64 (n : Nat), .int .i64 (d : Nat), .int .i64 0] wx fun e w' => e = .returned (.bool true) ∧ Below wx.heap.size wx w') := hB
  have HG : Hid (∀ wx, Calls Try.prog 15 #[.int .i64 (q : Nat), .int .i64 (n : Nat), .int .i64 (d : Nat)] wx fun e w' => e = .returned (.bool true) ∧ Below wx.heap.size wx w') := hG
  have HW : Hid (∀ wx, Calls Try.prog 9 #[.int .i64 (q : Nat), .int .i64 (n : Nat), .int .i64 (d : Nat), .int .i64 (x : Nat)] wx fun e w' => e = .returned (.int .i64 z) ∧ Below wx.heap.size wx w') := hW
  have HX : Hid (Arg ao N cap f w) := hX
  have hNb : ¬ (N : Int) > 100 := by omega
  have hNb2 : ¬ (100 : Int) < (N : Int) := by omega
  have h1 : ¬ (d : Int) < 0 := by omega
  have h2 : ¬ (n : Int) < (d : Int) := by omega
  have h2b : ¬ (d : Int) > (n : Int) := by omega
  have h3 : ¬ (x : Int) < 0 := by omega
  have h4 : ¬ (n : Int) < (x : Int) := by omega
  have h4b : ¬ (x : Int) > (n : Int) := by omega
  clear hX hK hC hR hB hG hW
  go_enter Try.func3, Try.ntmps3
  go_wp2_with fail
  refine (HK.out _).mono ?_
  rintro e w1 ⟨rfl, hb⟩
  have H1 : Hid (Below w.heap.size w w1) := hb
  clear hb
  go_wp2_with fail
  refine (HW.out _).mono ?_
  rintro e w2 ⟨rfl, hb⟩
  have H2 : Hid (Below w.heap.size w w2) := bel_up' H1.out hb
  clear hb H1
  go_wp2_with fail
  refine (HR.out _).mono ?_
  rintro e w3 ⟨rfl, hb⟩
  have H3 : Hid (Below w.heap.size w w3) := bel_up' H2.out hb
  clear hb H2
  go_wp2_with fail
  refine (HC.out _).mono ?_
  rintro e w4 ⟨rfl, hb⟩
  have H4 : Hid (Below w.heap.size w w4) := bel_up' H3.out hb
  clear hb H3
  go_wp2_with fail
  refine (num_same _ _).mono ?_
  rintro e w' ⟨rfl, hw⟩
  have hw := hw.symm
  subst hw
  go_wp2_with fail
  refine (HB.out _).mono ?_
  rintro e w5 ⟨rfl, hb⟩
  have H5 : Hid (Below w.heap.size w w5) := bel_up' H4.out hb
  clear hb H4
  go_wp2_with fail
  refine (lt_any _ hN (HX.out.below H5.out)).mono ?_
  rintro e w6 ⟨rfl, hb⟩
  have H6 : Hid (Below w.heap.size w w6) := bel_up' H5.out hb
  clear hb H5
  go_wp2_with fail
  refine (HG.out _).mono ?_
  rintro e w7 ⟨rfl, hb⟩
  have H7 : Hid (Below w.heap.size w w7) := bel_up' H6.out hb
  clear hb H6
  go_wp2
  go_ret
  exact ⟨rfl, H7.out⟩

set_option maxHeartbeats 4000000 in
set_option maxRecDepth 100000 in
theorem wy_long (q n d x : Int) (ao : Option Addr) (N cap : Nat) (w : World) (hN : N ≤ 17592186044416) (h : ¬ N ≤ 100) :
    Calls Try.prog 3 #[.int .i64 q, .int .i64 n, .int .i64 d, .int .i64 x, .slice ao N cap] w fun e w' => e = .returned (.bool true) ∧ Below w.heap.size w w' := by
  have h1 : (N : Int) > 100 := by omega
  have h2 : (100 : Int) < (N : Int) := by omega
  go_enter Try.func3, Try.ntmps3
  go_wp2
  go_ret
  exact ⟨rfl, Below.refl _ _⟩

theorem weightsSay_walk (q n d x : Int) (hn : n ≤ 9223372036854775807) {ao : Option Addr} {N cap : Nat} {f : Nat → Int} {w : World} (ha : ArgL ao N cap f w) (hN : N ≤ 17592186044416) :
    Calls Try.prog 3 #[.int .i64 q, .int .i64 n, .int .i64 d, .int .i64 x, .slice ao N cap] w fun e w' => e = .returned (.bool true) ∧ Below w.heap.size w w' := by
  by_cases hN1 : N ≤ 100
  · have hX := ha.arg (by omega)
    have hG : ∀ wx, Calls Try.prog 15 #[.int .i64 q, .int .i64 n, .int .i64 d] wx fun e w' => e = .returned (.bool true) ∧ Below wx.heap.size wx w' := fun wx => lg_any q n d wx
    by_cases h : ∃ D ∈ fieldsL, (D.q : Int) = q
    · obtain ⟨D, hD, rfl⟩ := h
      have hK : ∀ wx, Calls Try.prog 8 #[.int .i64 D.q, .int .i64 n] wx fun e w' => e = .returned (.int .i64 (D.wck n)) ∧ Below wx.heap.size wx w' := fun wx => rcount_any hD n hn wx
      have hC : ∀ wx, Calls Try.prog 11 #[.int .i64 D.q, .int .i64 n] wx fun e w' => e = .returned (.int .i64 (D.wck n)) ∧ Below wx.heap.size wx w' := fun wx => wcheck_any hD n hn wx
      have hCd : ∀ wx, Calls Try.prog 47 #[.int .i64 D.q, .int .i64 n, .int .i64 d] wx fun e w' => e = .returned (.int .i64 (cdk (D.wck n) n d)) ∧ Below wx.heap.size wx w' := fun wx => cdist_any D.q n d _ (hC wx)
      by_cases h0 : D.wck n = 0
      · rw [h0] at hC hK hCd
        obtain ⟨m, rfl, hm1, hm2, hp⟩ := wck_ok (fld hD) h0
        have hq2 := (fld hD).q2
        have hq64 := (fld hD).q64
        have hB : ∀ wx, Calls Try.prog 13 #[.int .i64 D.q, .int .i64 (m : Nat), .int .i64 d, .int .i64 0] wx fun e w' => e = .returned (.bool true) ∧ Below wx.heap.size wx w' := fun wx => by
          by_cases h1 : d < 1
          · rw [cdk_place (Or.inl h1)] at hCd
            exact bd_lo _ _ d h1 hCd
          · by_cases h2 : (m : Int) < d
            · rw [cdk_place (Or.inr h2)] at hCd
              exact bd_hi _ _ d h1 h2 hCd
            · rw [cdk_ok (by omega) (by omega)] at hCd
              obtain ⟨c, rfl⟩ : ∃ c : Nat, d = (c : Int) := ⟨d.toNat, by omega⟩
              exact bd_ok hq2 hq64 hp (by omega) (by omega) hCd
        by_cases h1 : d < 0
        · exact wy_p1 _ _ d x h1 hN1 hX hK hC (fun wx => wK_place _ _ d x (Or.inl h1) (hC wx)) hB hG
        · by_cases h2 : (m : Int) < d
          · exact wy_p2 _ _ d x h1 h2 hN1 hX hK hC (fun wx => wK_place _ _ d x (Or.inr (Or.inl h2)) (hC wx)) hB hG
          · by_cases h3 : x < 0
            · exact wy_p3 _ _ d x h1 h2 h3 hN1 hX hK hC (fun wx => wK_place _ _ d x (Or.inr (Or.inr (Or.inl h3))) (hC wx)) hB hG
            · by_cases h4 : (m : Int) < x
              · exact wy_p4 _ _ d x h1 h2 h3 h4 hN1 hX hK hC (fun wx => wK_place _ _ d x (Or.inr (Or.inr (Or.inr h4))) (hC wx)) hB hG
              · obtain ⟨c, rfl⟩ : ∃ c : Nat, d = (c : Int) := ⟨d.toNat, by omega⟩
                obtain ⟨y, rfl⟩ : ∃ y : Nat, x = (y : Int) := ⟨x.toNat, by omega⟩
                exact wy_ok (by omega) (by omega) (kv D.q m c y) hN1 hX hK hC (fun wx => wK_ok D.q m c y hq2 hq64 hp (by omega) (by omega) (hC wx)) hB hG (fun wx => rkraw_any D.q m c y hq2 hq64 hp (by omega) wx)
      · rw [cdk_err h0] at hCd
        exact wy_err _ n d x _ h0 hN1 hX hK hC (fun wx => wK_err _ n d x _ h0 (hC wx)) (fun wx => bd_e _ n d _ h0 hCd) hG
    · have hno : ∀ D ∈ fieldsL, (D.q : Int) ≠ q := fun D hD e => h ⟨D, hD, e⟩
      have hCd : ∀ wx, Calls Try.prog 47 #[.int .i64 q, .int .i64 n, .int .i64 d] wx fun e w' => e = .returned (.int .i64 1) ∧ Below wx.heap.size wx w' := fun wx => by
        have h := cdist_any q n d 1 (wcheck_none q hno n wx)
        rw [cdk_err (by simp)] at h
        exact h
      exact wy_err q n d x 1 (by simp) hN1 hX (fun wx => rcount_none q hno n wx) (fun wx => wcheck_none q hno n wx) (fun wx => wK_err q n d x 1 (by simp) (wcheck_none q hno n wx)) (fun wx => bd_e q n d 1 (by simp) hCd) hG
  · exact wy_long q n d x ao N cap w hN hN1
end Go.Proofs.Ytnjbnamcedfjaaa
