/- SparseMade: the walk of the statement, whatever raw numbers it is given. -/
import Derived.Test.YtjkncdmbcckcdaaZKE21
namespace Go.Proofs.Ytjkncdmbcckcdaa
open Go.RowKit Go.Sort

set_option maxHeartbeats 1000000 in
theorem sparseMade_long {ao : Option Addr} {n ca : Nat} (k many most : Int) (lost : Bool) (w : World) (hn : ¬ n ≤ 256) :
    Calls Try.prog 8 #[.slice ao n ca, .int .i64 k, .int .i64 many, .int .i64 most, .bool lost] w fun r w' => r = .returned (.bool true) ∧ Below w.heap.size w w' := by
  have h1 : (256 : Int) < (n : Int) := by omega
  go_enter Try.func8, Try.ntmps8
  go_wp2
  go_ret
  exact ⟨rfl, Below.refl _ _⟩

set_option maxHeartbeats 4000000 in
set_option maxRecDepth 100000 in
theorem sparseMade_walk {ao : Option Addr} {n ca : Nat} {z : Nat → Int} (k many most : Int) (lost : Bool) {w : World} (ha : Arg ao n ca z w) (hn : n ≤ 256) (hk : I64 k) (hmany : I64 many) (hmost : I64 most) :
    Calls Try.prog 8 #[.slice ao n ca, .int .i64 k, .int .i64 many, .int .i64 most, .bool lost] w fun r w' => r = .returned (.bool true) ∧ Below w.heap.size w w' := by
  have HPi : ∀ (x : Int) (q : Nat), I64 x → 1 ≤ q → q ≤ 100 → ∃ M : Nat, M < q ∧ ∀ w : World, Calls Try.prog 17 #[.int .i64 x, .int .i64 (q : Nat)] w fun e w' => e = .returned (.int .i64 (M : Nat)) ∧ w' = w := fun x q hx h1 h2 => by
    have h3 := pick_lo x (q : Int) (by omega)
    have h4 := pick_hi x (q : Int) (by omega)
    exact ⟨(pick x (q : Int)).toNat, by omega, fun w => by rw [Int.toNat_of_nonneg h3]; exact pick_any x q w hx.1 hx.2 (by omega) (by omega)⟩
  obtain ⟨N0, hN0, hp1⟩ := HPi k 16 hk (by omega) (by omega)
  obtain ⟨M0, hM0, hp2⟩ := HPi many 12 hmany (by omega) (by omega)
  obtain ⟨N1, hN1⟩ : ∃ N1, N1 = 1 + N0 := ⟨_, rfl⟩
  have hwN : IntKind.i64.wrap (1 + (N0 : Int)) = (N1 : Int) := wrap_to (by omega) (by omega)
  obtain ⟨T, hT, hp3⟩ := HPi most N1 hmost (by omega) (by omega)
  obtain ⟨P, hP, hp4⟩ := HPi most 30 hmost (by omega) (by omega)
  have H1 : Hid (∀ w : World, Calls Try.prog 17 #[.int .i64 k, .int .i64 16] w fun e w' => e = .returned (.int .i64 (N0 : Nat)) ∧ w' = w) := hp1
  have H2 : Hid (∀ w : World, Calls Try.prog 17 #[.int .i64 many, .int .i64 12] w fun e w' => e = .returned (.int .i64 (M0 : Nat)) ∧ w' = w) := hp2
  have H3 : Hid (∀ w : World, Calls Try.prog 17 #[.int .i64 most, .int .i64 (N1 : Nat)] w fun e w' => e = .returned (.int .i64 (T : Nat)) ∧ w' = w) := hp3
  have H4 : Hid (∀ w : World, Calls Try.prog 17 #[.int .i64 most, .int .i64 30] w fun e w' => e = .returned (.int .i64 (P : Nat)) ∧ w' = w) := hp4
  have HA : Hid (Arg ao n ca z w) := ha
  have hnb : ¬ (256 : Int) < (n : Int) := by omega
  have hN16 : N1 ≤ 16 := by omega
  have HCo : Hid (∀ wx, Below w.heap.size w wx → Calls Try.prog 38 #[.slice ao n ca, .int .i64 (N1 : Nat), .int .i64 (M0 : Nat)] wx fun e w' => ∃ mo mc A N C Z, e = .returned (.slice mo M0 mc) ∧ MatZ mo M0 A N C Z w' ∧ (∀ j, j < M0 → N j ≤ 16) ∧ Below wx.heap.size wx w') := fun wx hb => by
    refine (checksOf_any (HA.out.below hb) (by omega) N1 M0 (by omega) (by omega)).mono ?_
    rintro e w' ⟨v, vs, N, Z, rfl, hm, hb'⟩
    obtain ⟨mo, mc, rfl, hmz⟩ := hm.matZ (by omega)
    exact ⟨mo, mc, _, _, _, _, rfl, hmz, fun j hj => by have := (hm.ris j hj).few; omega, hb'⟩
  have HWo : Hid (∀ wx, Below w.heap.size w wx → Calls Try.prog 39 #[.slice ao n ca, .int .i64 9, .int .i64 (N1 : Nat), .bool lost] wx fun e w' => ∃ bo cb y, e = .returned (.slice bo N1 cb) ∧ ArgL bo N1 cb y w' ∧ Below wx.heap.size wx w') := fun wx hb => by
    refine (wordOf_any (HA.out.below hb) (by omega) 9 N1 lost (by omega) (by omega)).mono ?_
    rintro e w' ⟨v, y, rfl, ho, _, hb'⟩
    obtain ⟨bo, cb, rfl, hA⟩ := ho.argL
    exact ⟨bo, cb, y, rfl, hA, hb'⟩
  have HNu : Hid (∀ wx, Below w.heap.size w wx → Calls Try.prog 19 #[.slice ao n ca, .int .i64 4, .int .i64 (N1 : Nat), .int .i64 (T : Nat)] wx fun e w' => ∃ bo cb y, e = .returned (.slice bo T cb) ∧ ArgL bo T cb y w' ∧ Below wx.heap.size wx w') := fun wx hb => by
    refine (numbers_any (HA.out.below hb) (by omega) 4 N1 T (by omega) (by omega) (by omega) (by omega)).mono ?_
    rintro e w' ⟨v, y, rfl, ho, _, hb'⟩
    obtain ⟨bo, cb, rfl, hA⟩ := ho.argL
    exact ⟨bo, cb, y, rfl, hA, hb'⟩
  clear ha hk hmany hmost HPi hp1 hp2 hp3 hp4 hN1
  go_enter Try.func8, Try.ntmps8
  go_wp2_with fail
  refine (H1.out w).mono ?_
  rintro e w' ⟨rfl, hw⟩
  have hw := hw.symm
  subst hw
  go_wp2_with fail
  refine (H2.out w).mono ?_
  rintro e w' ⟨rfl, hw⟩
  have hw := hw.symm
  subst hw
  go_wp2_with fail
  refine (HCo.out w (Below.refl _ _)).mono ?_
  rintro e w1 ⟨mo, mc, A, N, C, Z, rfl, hm1, hf1, hb1⟩
  have B1 : Hid (MatZ mo M0 A N C Z w1 ∧ (∀ j, j < M0 → N j ≤ 16) ∧ Below w.heap.size w w1) := ⟨hm1, hf1, hb1⟩
  clear hm1 hf1 hb1
  go_wp2_with fail
  refine (HWo.out w1 B1.out.2.2).mono ?_
  rintro e w2 ⟨bo, cb, y, rfl, hA2, hb2⟩
  have B2 : Hid (ArgL bo N1 cb y w2 ∧ Below w1.heap.size w1 w2 ∧ Below w.heap.size w w2) := ⟨hA2, hb2, bel_up' B1.out.2.2 hb2⟩
  clear hA2 hb2
  go_wp2_with fail
  refine (H3.out w2).mono ?_
  rintro e w' ⟨rfl, hw⟩
  have hw := hw.symm
  subst hw
  go_wp2_with fail
  refine (HNu.out w2 B2.out.2.2).mono ?_
  rintro e w3 ⟨so, cs, S, rfl, hA3, hb3⟩
  have B3 : Hid (ArgL so T cs S w3 ∧ Below w2.heap.size w2 w3 ∧ Below w.heap.size w w3) := ⟨hA3, hb3, bel_up' B2.out.2.2 hb3⟩
  clear hA3 hb3
  go_wp2_with fail
  refine (H4.out w3).mono ?_
  rintro e w' ⟨rfl, hw⟩
  have hw := hw.symm
  subst hw
  have HL : Hid (Calls Try.prog 7 #[.int .i64 (N1 : Nat), .slice mo M0 mc, .slice bo N1 cb, .slice so T cs, .int .i64 (P : Nat)] w3 fun x w' => x = .returned (.bool true) ∧ Below w3.heap.size w3 w') := by
    have hm3 := (B1.out.1.below B2.out.2.1).below B3.out.2.1
    refine sparseSays_walk (A := A) (N := N) (C := C) (Z := Z) (y := y) (S := S) _ _ ⟨hm3.cell, hm3.sl, hm3.le, hm3.cap, hm3.nil⟩ (by omega) (fun i hi => by have := B1.out.2.1 i hi; omega) ?_ B3.out.1 (by omega) (by omega)
    exact ⟨slz_below B2.out.1.sl B3.out.2.1, fun a ha => Nat.lt_of_lt_of_le (B2.out.1.lt a ha) B3.out.2.1.size, B2.out.1.nil, B2.out.1.le, B2.out.1.cap⟩
  go_wp2_with fail
  refine HL.out.mono ?_
  rintro e w4 ⟨rfl, hb4⟩
  have B4 : Hid (Below w.heap.size w w4) := bel_up' B3.out.2.2 hb4
  clear hb4 HL
  go_wp2
  go_ret
  exact ⟨rfl, B4.out⟩
end Go.Proofs.Ytjkncdmbcckcdaa
