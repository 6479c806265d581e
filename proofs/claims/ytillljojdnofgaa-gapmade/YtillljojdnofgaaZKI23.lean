/- GapMade: whatever it is given. -/
import Derived.Test.YtillljojdnofgaaZKI22
import Derived.Test.YtillljojdnofgaaZKE17
namespace Go.Proofs.Ytillljojdnofgaa
open Go.RowKit

set_option maxHeartbeats 2000000 in
set_option maxRecDepth 100000 in
theorem gapMade_long {ao : Option Addr} {n ca : Nat} (q a r k : Int) (w : World) (hn : ¬ n ≤ 64) (hn2 : n ≤ 17592186044416) :
    Calls Try.prog 4 #[.slice ao n ca, .int .i64 q, .int .i64 a, .int .i64 r, .int .i64 k] w fun r w' => r = .returned (.bool true) ∧ Below w.heap.size w w' := by
  have h1 : (64 : Int) < (n : Int) := by omega
  go_enter Try.func4, Try.ntmps4
  go_wp2
  go_ret
  exact ⟨rfl, Below.refl _ _⟩

set_option maxHeartbeats 8000000 in
set_option maxRecDepth 100000 in
theorem gapMade_walk {ao : Option Addr} {n ca : Nat} {z : Nat → Int} (q a r k : Int) {w : World} (ha : Arg ao n ca z w) (hn : n ≤ 64) (hq : I64 q) (haI : I64 a) (hr : I64 r) (hk : I64 k) :
    Calls Try.prog 4 #[.slice ao n ca, .int .i64 q, .int .i64 a, .int .i64 r, .int .i64 k] w fun r w' => r = .returned (.bool true) ∧ Below w.heap.size w w' := by
  have HPi : ∀ (x : Int) (q : Nat), I64 x → 1 ≤ q → q ≤ 100 → ∃ M : Nat, M < q ∧ ∀ w : World, Calls Try.prog 23 #[.int .i64 x, .int .i64 (q : Nat)] w fun e w' => e = .returned (.int .i64 (M : Nat)) ∧ w' = w := fun x q hx h1 h2 => by
    have h3 := pick_lo x (q : Int) (by omega)
    have h4 := pick_hi x (q : Int) (by omega)
    exact ⟨(pick x (q : Int)).toNat, by omega, fun w => by rw [Int.toNat_of_nonneg h3]; exact pick_any x q w hx.1 hx.2 (by omega) (by omega)⟩
  obtain ⟨M0, hM0, hp0⟩ := HPi q 8 hq (by omega) (by omega)
  obtain ⟨N, hN⟩ : ∃ N, N = 1 + M0 := ⟨_, rfl⟩
  obtain ⟨N1, hN1⟩ : ∃ N1, N1 = N + 1 := ⟨_, rfl⟩
  obtain ⟨N0, hN0⟩ : ∃ N0, N0 = N - 1 := ⟨_, rfl⟩
  have wN : IntKind.i64.wrap (1 + (M0 : Int)) = (N : Int) := wrap_to (by omega) (by omega)
  have wN1 : IntKind.i64.wrap ((N : Int) + 1) = (N1 : Int) := wrap_to (by omega) (by omega)
  have wN0 : IntKind.i64.wrap ((N : Int) - 1) = (N0 : Int) := wrap_to (by omega) (by omega)
  obtain ⟨A, hA, hpA⟩ := HPi a N1 haI (by omega) (by omega)
  obtain ⟨R, hR, hpR⟩ := HPi r 3 hr (by omega) (by omega)
  obtain ⟨K, hK, hpK⟩ := HPi k 14 hk (by omega) (by omega)
  obtain ⟨Lw, hLw⟩ : ∃ Lw, Lw = N0 + R := ⟨_, rfl⟩
  have wL : IntKind.i64.wrap ((N0 : Int) + (R : Int)) = (Lw : Int) := wrap_to (by omega) (by omega)
  have H0 : Hid (∀ w : World, Calls Try.prog 23 #[.int .i64 q, .int .i64 8] w fun e w' => e = .returned (.int .i64 (M0 : Nat)) ∧ w' = w) := hp0
  have H1 : Hid (∀ w : World, Calls Try.prog 23 #[.int .i64 a, .int .i64 (N1 : Nat)] w fun e w' => e = .returned (.int .i64 (A : Nat)) ∧ w' = w) := hpA
  have H2 : Hid (∀ w : World, Calls Try.prog 23 #[.int .i64 r, .int .i64 3] w fun e w' => e = .returned (.int .i64 (R : Nat)) ∧ w' = w) := hpR
  have H3 : Hid (∀ w : World, Calls Try.prog 23 #[.int .i64 k, .int .i64 14] w fun e w' => e = .returned (.int .i64 (K : Nat)) ∧ w' = w) := hpK
  have HA : Hid (Arg ao n ca z w) := ha
  have hnb : ¬ (64 : Int) < (n : Int) := by omega
  have HW1 : Hid (Calls Try.prog 24 #[.slice ao n ca, .int .i64 0, .int .i64 (Lw : Nat), .bool false] w fun e w' => ∃ bo cb y, e = .returned (.slice bo Lw cb) ∧ ArgL bo Lw cb y w' ∧ Below w.heap.size w w') := by
    refine (wordOf_any HA.out (by omega) 0 Lw false (by omega) (by omega)).mono ?_
    rintro e w' ⟨v, y, rfl, ho, _, hb'⟩
    obtain ⟨bo, cb, rfl, hA⟩ := ho.argL
    exact ⟨bo, cb, y, rfl, hA, hb'⟩
  have HW2 : Hid (∀ wx, Below w.heap.size w wx → Calls Try.prog 24 #[.slice ao n ca, .int .i64 9, .int .i64 (K : Nat), .bool false] wx fun e w' => ∃ bo cb y, e = .returned (.slice bo K cb) ∧ ArgL bo K cb y w' ∧ Below wx.heap.size wx w') := fun wx hb => by
    refine (wordOf_any (HA.out.below hb) (by omega) 9 K false (by omega) (by omega)).mono ?_
    rintro e w' ⟨v, y, rfl, ho, _, hb'⟩
    obtain ⟨bo, cb, rfl, hA⟩ := ho.argL
    exact ⟨bo, cb, y, rfl, hA, hb'⟩
  have hLK : Lw + K ≤ 100 := by omega
  clear ha hq haI hr hk HPi hp0 hpA hpR hpK hN hN1 hN0 hLw
  go_enter Try.func4, Try.ntmps4
  go_wp2_with fail
  refine (H0.out w).mono ?_
  rintro e w' ⟨rfl, hw⟩
  have hw := hw.symm
  subst hw
  go_wp2_with fail
  refine (H1.out w).mono ?_
  rintro e w' ⟨rfl, hw⟩
  have hw := hw.symm
  subst hw
  go_wp2_with fail
  refine (H2.out w).mono ?_
  rintro e w' ⟨rfl, hw⟩
  have hw := hw.symm
  subst hw
  go_wp2_with fail
  refine HW1.out.mono ?_
  rintro e w1 ⟨bo, cb, y1, rfl, ha1, hb1⟩
  have G1 : Hid (ArgL bo Lw cb y1 w1 ∧ Below w.heap.size w w1) := ⟨ha1, hb1⟩
  clear ha1 hb1 HW1
  go_wp2_with fail
  refine (H3.out w1).mono ?_
  rintro e w' ⟨rfl, hw⟩
  have hw := hw.symm
  subst hw
  go_wp2_with fail
  refine (HW2.out w1 G1.out.2).mono ?_
  rintro e w2 ⟨b2, c2, y2, rfl, ha2, hb2⟩
  have HGo : Hid (Calls Try.prog 3 #[.int .i64 (N : Nat), .int .i64 (A : Nat), .slice bo Lw cb, .slice b2 K c2] w2 fun e w' => e = .returned (.bool true) ∧ Below w2.heap.size w2 w') := gapSays_walk _ _ (argL_below G1.out.1 hb2) ha2 hLK
  have G2 : Hid (Below w.heap.size w w2) := bel_up' G1.out.2 hb2
  clear ha2 hb2 G1 HW2
  go_wp2_with fail
  refine HGo.out.mono ?_
  rintro e w3 ⟨rfl, hb3⟩
  have G3 : Hid (Below w.heap.size w w3) := bel_up' G2.out hb3
  clear hb3
  go_wp2
  go_ret
  exact ⟨rfl, G3.out⟩
end Go.Proofs.Ytillljojdnofgaa
