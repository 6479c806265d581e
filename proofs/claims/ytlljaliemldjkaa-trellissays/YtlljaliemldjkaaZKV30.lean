/- TrellisSays: its walk, by the ways of its first half (printed by make/kv30.py). -/
import Derived.Test.YtlljaliemldjkaaZKV28
import Derived.Test.YtlljaliemldjkaaZL1
import Derived.Test.YtlljaliemldjkaaZL10
namespace Go.Proofs.Ytlljaliemldjkaa
open Go.RowKit Go.Sort

theorem num_tr {e k : Int} (hk : e ≠ 0 → k = 0) (w : World) : Calls Try.prog 14 #[.int .i64 k, .int .i64 e, .int .i64 k, .int .i64 e] w fun r w' => r = .returned (.bool true) ∧ w' = w := by
  by_cases h0 : e = 0
  · subst h0; exact num_same k w
  · rw [hk h0]; exact num_err e h0 0 w
theorem KI.form {v : Value} {l : List Int} {w : World} (h : KI v l w) : ∃ o n c, v = .slice o n c := by
  rcases h.1 with ⟨_, ao, cap, e⟩ | ⟨_, _, b, off, cap, e, _⟩
  · exact ⟨_, _, _, e⟩
  · exact ⟨_, _, _, e⟩
set_option maxHeartbeats 4000000 in
set_option maxRecDepth 100000 in
theorem tsays_1 {ao mo so : Option Addr} {R ca ml mc l sc n : Nat} {a b E E0 : Int} {w : World} (hE0 : E0 ≠ 0) (hlen : R + ml + l ≤ 300) (hn : E ≠ 0 → ((n : Nat) : Int) = 0)
    (hT : ∀ wx, Below w.heap.size w wx → Calls Try.prog 6 #[.slice ao R ca] wx fun e w' => e = .returned (.int .i64 E0) ∧ Below wx.heap.size wx w')
    (hC : ∀ wx, Below w.heap.size w wx → Calls Try.prog 10 #[.slice ao R ca] wx fun e w' => e = .returned (.int .i64 E0) ∧ Below wx.heap.size wx w')
    (hN : ∀ wx, Below w.heap.size w wx → Calls Try.prog 9 #[.slice ao R ca, .slice mo ml mc] wx fun e w' => e = .returned (.tuple #[.slice none 0 0, .int .i64 E0]) ∧ Below wx.heap.size wx w')
    (hM : ∀ wx, Below w.heap.size w wx → Calls Try.prog 12 #[.slice ao R ca, .slice so l sc] wx fun e w' => e = .returned (.tuple #[.int .i64 (n : Nat), .int .i64 E]) ∧ Below wx.heap.size wx w')
    (hL : ∀ wx, Below w.heap.size w wx → Calls Try.prog 13 #[.slice ao R ca, .slice so l sc] wx fun e w' => e = .returned (.tuple #[.int .i64 (n : Nat), .int .i64 E]) ∧ Below wx.heap.size wx w')
    (hK : ∀ wx, Below w.heap.size w wx → Calls Try.prog 15 #[.slice ao R ca, .slice mo ml mc, .slice so l sc, .int .i64 (n : Nat), .int .i64 E] wx fun e w' => e = .returned (.bool true) ∧ Below wx.heap.size wx w')
    (hS : ∀ wx, Below w.heap.size w wx → Calls Try.prog 16 #[.slice ao R ca, .slice so l sc, .int .i64 (n : Nat), .int .i64 a, .int .i64 b, .int .i64 E] wx fun e w' => e = .returned (.bool true) ∧ Below wx.heap.size wx w') :
    Calls Try.prog 3 #[.slice ao R ca, .slice mo ml mc, .slice so l sc, .int .i64 a, .int .i64 b] w fun e w' => e = .returned (.bool true) ∧ Below w.heap.size w w' := by
  obtain ⟨N1, hN1⟩ : ∃ N1, N1 = R + ml := ⟨_, rfl⟩
  obtain ⟨N2, hN2⟩ : ∃ N2, N2 = N1 + l := ⟨_, rfl⟩
  have g1 : IntKind.i64.wrap ((R : Int) + (ml : Int)) = (N1 : Int) := wrap_to (by omega) (by omega)
  have g2 : IntKind.i64.wrap ((N1 : Int) + (l : Int)) = (N2 : Int) := wrap_to (by omega) (by omega)
  have g3 : ¬ (300 : Int) < (N2 : Int) := by omega
  have z0 : (E0 == 0) = false := beq_eq_false_iff_ne.2 hE0
  have z9 : (E0 != E0) = false := by simp
  have HT : Hid (∀ wx, Below w.heap.size w wx → Calls Try.prog 6 #[.slice ao R ca] wx fun e w' => e = .returned (.int .i64 E0) ∧ Below wx.heap.size wx w') := hT
  have HC : Hid (∀ wx, Below w.heap.size w wx → Calls Try.prog 10 #[.slice ao R ca] wx fun e w' => e = .returned (.int .i64 E0) ∧ Below wx.heap.size wx w') := hC
  have HN : Hid (∀ wx, Below w.heap.size w wx → Calls Try.prog 9 #[.slice ao R ca, .slice mo ml mc] wx fun e w' => e = .returned (.tuple #[.slice none 0 0, .int .i64 E0]) ∧ Below wx.heap.size wx w') := hN
  have HM : Hid (∀ wx, Below w.heap.size w wx → Calls Try.prog 12 #[.slice ao R ca, .slice so l sc] wx fun e w' => e = .returned (.tuple #[.int .i64 (n : Nat), .int .i64 E]) ∧ Below wx.heap.size wx w') := hM
  have HL : Hid (∀ wx, Below w.heap.size w wx → Calls Try.prog 13 #[.slice ao R ca, .slice so l sc] wx fun e w' => e = .returned (.tuple #[.int .i64 (n : Nat), .int .i64 E]) ∧ Below wx.heap.size wx w') := hL
  have HK : Hid (∀ wx, Below w.heap.size w wx → Calls Try.prog 15 #[.slice ao R ca, .slice mo ml mc, .slice so l sc, .int .i64 (n : Nat), .int .i64 E] wx fun e w' => e = .returned (.bool true) ∧ Below wx.heap.size wx w') := hK
  have HS : Hid (∀ wx, Below w.heap.size w wx → Calls Try.prog 16 #[.slice ao R ca, .slice so l sc, .int .i64 (n : Nat), .int .i64 a, .int .i64 b, .int .i64 E] wx fun e w' => e = .returned (.bool true) ∧ Below wx.heap.size wx w') := hS
  clear hT hC hN hM hL hK hS hN1 hN2 hlen
  go_enter Try.func3, Try.ntmps3
  go_wp2_with fail
  refine (HT.out w (Below.refl _ _)).mono ?_
  rintro e w1 ⟨rfl, hb1⟩
  have X1 : Hid (Below w.heap.size w w1) := hb1
  clear hb1
  go_wp2_with fail
  refine (HN.out w1 X1.out).mono ?_
  rintro e w2 ⟨rfl, hb2⟩
  have X2 : Hid (Below w.heap.size w w2) := bel_up' X1.out hb2
  clear hb2
  go_wp2_with fail
  refine (HC.out w2 X2.out).mono ?_
  rintro e w3 ⟨rfl, hb3⟩
  have X3 : Hid (Below w.heap.size w w3) := bel_up' X2.out hb3
  clear hb3
  go_wp2_with fail
  refine (list_err E0 hE0 w3).mono ?_
  rintro e w' ⟨rfl, hw⟩
  have hw := hw.symm
  subst hw
  go_wp2_with fail
  refine (HM.out w3 X3.out).mono ?_
  rintro e w4 ⟨rfl, hb4⟩
  have X4 : Hid (Below w.heap.size w w4) := bel_up' X3.out hb4
  clear hb4
  go_wp2_with fail
  refine (HL.out w4 X4.out).mono ?_
  rintro e w5 ⟨rfl, hb5⟩
  have X5 : Hid (Below w.heap.size w w5) := bel_up' X4.out hb5
  clear hb5
  go_wp2_with fail
  refine (num_tr hn w5).mono ?_
  rintro e w' ⟨rfl, hw⟩
  have hw := hw.symm
  subst hw
  go_wp2_with fail
  refine (HK.out w5 X5.out).mono ?_
  rintro e w6 ⟨rfl, hb6⟩
  have X6 : Hid (Below w.heap.size w w6) := bel_up' X5.out hb6
  clear hb6
  go_wp2_with fail
  refine (HS.out w6 X6.out).mono ?_
  rintro e w7 ⟨rfl, hb7⟩
  have X7 : Hid (Below w.heap.size w w7) := bel_up' X6.out hb7
  clear hb7
  go_wp2
  go_ret
  exact ⟨by simp, X7.out⟩
set_option maxHeartbeats 4000000 in
set_option maxRecDepth 100000 in
theorem tsays_2 {ao mo so : Option Addr} {R ca ml mc l sc n : Nat} {a b E : Int} {w : World} (hml : 20 < ml) (hlen : R + ml + l ≤ 300) (hn : E ≠ 0 → ((n : Nat) : Int) = 0)
    (hT : ∀ wx, Below w.heap.size w wx → Calls Try.prog 6 #[.slice ao R ca] wx fun e w' => e = .returned (.int .i64 0) ∧ Below wx.heap.size wx w')
    (hC : ∀ wx, Below w.heap.size w wx → Calls Try.prog 10 #[.slice ao R ca] wx fun e w' => e = .returned (.int .i64 0) ∧ Below wx.heap.size wx w')
    (hN : ∀ wx, Below w.heap.size w wx → Calls Try.prog 9 #[.slice ao R ca, .slice mo ml mc] wx fun e w' => e = .returned (.tuple #[.slice none 0 0, .int .i64 4]) ∧ Below wx.heap.size wx w')
    (hM : ∀ wx, Below w.heap.size w wx → Calls Try.prog 12 #[.slice ao R ca, .slice so l sc] wx fun e w' => e = .returned (.tuple #[.int .i64 (n : Nat), .int .i64 E]) ∧ Below wx.heap.size wx w')
    (hL : ∀ wx, Below w.heap.size w wx → Calls Try.prog 13 #[.slice ao R ca, .slice so l sc] wx fun e w' => e = .returned (.tuple #[.int .i64 (n : Nat), .int .i64 E]) ∧ Below wx.heap.size wx w')
    (hK : ∀ wx, Below w.heap.size w wx → Calls Try.prog 15 #[.slice ao R ca, .slice mo ml mc, .slice so l sc, .int .i64 (n : Nat), .int .i64 E] wx fun e w' => e = .returned (.bool true) ∧ Below wx.heap.size wx w')
    (hS : ∀ wx, Below w.heap.size w wx → Calls Try.prog 16 #[.slice ao R ca, .slice so l sc, .int .i64 (n : Nat), .int .i64 a, .int .i64 b, .int .i64 E] wx fun e w' => e = .returned (.bool true) ∧ Below wx.heap.size wx w') :
    Calls Try.prog 3 #[.slice ao R ca, .slice mo ml mc, .slice so l sc, .int .i64 a, .int .i64 b] w fun e w' => e = .returned (.bool true) ∧ Below w.heap.size w w' := by
  obtain ⟨N1, hN1⟩ : ∃ N1, N1 = R + ml := ⟨_, rfl⟩
  obtain ⟨N2, hN2⟩ : ∃ N2, N2 = N1 + l := ⟨_, rfl⟩
  have g1 : IntKind.i64.wrap ((R : Int) + (ml : Int)) = (N1 : Int) := wrap_to (by omega) (by omega)
  have g2 : IntKind.i64.wrap ((N1 : Int) + (l : Int)) = (N2 : Int) := wrap_to (by omega) (by omega)
  have g3 : ¬ (300 : Int) < (N2 : Int) := by omega
  have z1 : (20 : Int) < (ml : Int) := by omega
  have HT : Hid (∀ wx, Below w.heap.size w wx → Calls Try.prog 6 #[.slice ao R ca] wx fun e w' => e = .returned (.int .i64 0) ∧ Below wx.heap.size wx w') := hT
  have HC : Hid (∀ wx, Below w.heap.size w wx → Calls Try.prog 10 #[.slice ao R ca] wx fun e w' => e = .returned (.int .i64 0) ∧ Below wx.heap.size wx w') := hC
  have HN : Hid (∀ wx, Below w.heap.size w wx → Calls Try.prog 9 #[.slice ao R ca, .slice mo ml mc] wx fun e w' => e = .returned (.tuple #[.slice none 0 0, .int .i64 4]) ∧ Below wx.heap.size wx w') := hN
  have HM : Hid (∀ wx, Below w.heap.size w wx → Calls Try.prog 12 #[.slice ao R ca, .slice so l sc] wx fun e w' => e = .returned (.tuple #[.int .i64 (n : Nat), .int .i64 E]) ∧ Below wx.heap.size wx w') := hM
  have HL : Hid (∀ wx, Below w.heap.size w wx → Calls Try.prog 13 #[.slice ao R ca, .slice so l sc] wx fun e w' => e = .returned (.tuple #[.int .i64 (n : Nat), .int .i64 E]) ∧ Below wx.heap.size wx w') := hL
  have HK : Hid (∀ wx, Below w.heap.size w wx → Calls Try.prog 15 #[.slice ao R ca, .slice mo ml mc, .slice so l sc, .int .i64 (n : Nat), .int .i64 E] wx fun e w' => e = .returned (.bool true) ∧ Below wx.heap.size wx w') := hK
  have HS : Hid (∀ wx, Below w.heap.size w wx → Calls Try.prog 16 #[.slice ao R ca, .slice so l sc, .int .i64 (n : Nat), .int .i64 a, .int .i64 b, .int .i64 E] wx fun e w' => e = .returned (.bool true) ∧ Below wx.heap.size wx w') := hS
  clear hT hC hN hM hL hK hS hN1 hN2 hlen
  go_enter Try.func3, Try.ntmps3
  go_wp2_with fail
  refine (HT.out w (Below.refl _ _)).mono ?_
  rintro e w1 ⟨rfl, hb1⟩
  have X1 : Hid (Below w.heap.size w w1) := hb1
  clear hb1
  go_wp2_with fail
  refine (HN.out w1 X1.out).mono ?_
  rintro e w2 ⟨rfl, hb2⟩
  have X2 : Hid (Below w.heap.size w w2) := bel_up' X1.out hb2
  clear hb2
  go_wp2_with fail
  refine (HC.out w2 X2.out).mono ?_
  rintro e w3 ⟨rfl, hb3⟩
  have X3 : Hid (Below w.heap.size w w3) := bel_up' X2.out hb3
  clear hb3
  go_wp2_with fail
  refine (list_err 4 (by decide) w3).mono ?_
  rintro e w' ⟨rfl, hw⟩
  have hw := hw.symm
  subst hw
  go_wp2_with fail
  refine (HM.out w3 X3.out).mono ?_
  rintro e w4 ⟨rfl, hb4⟩
  have X4 : Hid (Below w.heap.size w w4) := bel_up' X3.out hb4
  clear hb4
  go_wp2_with fail
  refine (HL.out w4 X4.out).mono ?_
  rintro e w5 ⟨rfl, hb5⟩
  have X5 : Hid (Below w.heap.size w w5) := bel_up' X4.out hb5
  clear hb5
  go_wp2_with fail
  refine (num_tr hn w5).mono ?_
  rintro e w' ⟨rfl, hw⟩
  have hw := hw.symm
  subst hw
  go_wp2_with fail
  refine (HK.out w5 X5.out).mono ?_
  rintro e w6 ⟨rfl, hb6⟩
  have X6 : Hid (Below w.heap.size w w6) := bel_up' X5.out hb6
  clear hb6
  go_wp2_with fail
  refine (HS.out w6 X6.out).mono ?_
  rintro e w7 ⟨rfl, hb7⟩
  have X7 : Hid (Below w.heap.size w w7) := bel_up' X6.out hb7
  clear hb7
  go_wp2
  go_ret
  exact ⟨by simp, X7.out⟩
set_option maxHeartbeats 4000000 in
set_option maxRecDepth 100000 in
theorem tsays_3 {ao mo so : Option Addr} {R ca ml mc l sc n : Nat} {a b E : Int} {w : World} (hml : ml ≤ 20) (hlen : R + ml + l ≤ 300) (hn : E ≠ 0 → ((n : Nat) : Int) = 0)
    (hT : ∀ wx, Below w.heap.size w wx → Calls Try.prog 6 #[.slice ao R ca] wx fun e w' => e = .returned (.int .i64 0) ∧ Below wx.heap.size wx w')
    (hC : ∀ wx, Below w.heap.size w wx → Calls Try.prog 10 #[.slice ao R ca] wx fun e w' => e = .returned (.int .i64 0) ∧ Below wx.heap.size wx w')
    (hB : ∀ wx, Below w.heap.size w wx → Calls Try.prog 7 #[.slice mo ml mc, .bool false] wx fun e w' => e = .returned (.bool false) ∧ Below wx.heap.size wx w')
    (hN : ∀ wx, Below w.heap.size w wx → Calls Try.prog 9 #[.slice ao R ca, .slice mo ml mc] wx fun e w' => e = .returned (.tuple #[.slice none 0 0, .int .i64 2]) ∧ Below wx.heap.size wx w')
    (hM : ∀ wx, Below w.heap.size w wx → Calls Try.prog 12 #[.slice ao R ca, .slice so l sc] wx fun e w' => e = .returned (.tuple #[.int .i64 (n : Nat), .int .i64 E]) ∧ Below wx.heap.size wx w')
    (hL : ∀ wx, Below w.heap.size w wx → Calls Try.prog 13 #[.slice ao R ca, .slice so l sc] wx fun e w' => e = .returned (.tuple #[.int .i64 (n : Nat), .int .i64 E]) ∧ Below wx.heap.size wx w')
    (hK : ∀ wx, Below w.heap.size w wx → Calls Try.prog 15 #[.slice ao R ca, .slice mo ml mc, .slice so l sc, .int .i64 (n : Nat), .int .i64 E] wx fun e w' => e = .returned (.bool true) ∧ Below wx.heap.size wx w')
    (hS : ∀ wx, Below w.heap.size w wx → Calls Try.prog 16 #[.slice ao R ca, .slice so l sc, .int .i64 (n : Nat), .int .i64 a, .int .i64 b, .int .i64 E] wx fun e w' => e = .returned (.bool true) ∧ Below wx.heap.size wx w') :
    Calls Try.prog 3 #[.slice ao R ca, .slice mo ml mc, .slice so l sc, .int .i64 a, .int .i64 b] w fun e w' => e = .returned (.bool true) ∧ Below w.heap.size w w' := by
  obtain ⟨N1, hN1⟩ : ∃ N1, N1 = R + ml := ⟨_, rfl⟩
  obtain ⟨N2, hN2⟩ : ∃ N2, N2 = N1 + l := ⟨_, rfl⟩
  have g1 : IntKind.i64.wrap ((R : Int) + (ml : Int)) = (N1 : Int) := wrap_to (by omega) (by omega)
  have g2 : IntKind.i64.wrap ((N1 : Int) + (l : Int)) = (N2 : Int) := wrap_to (by omega) (by omega)
  have g3 : ¬ (300 : Int) < (N2 : Int) := by omega
  have z1 : ¬ (20 : Int) < (ml : Int) := by omega
  have HT : Hid (∀ wx, Below w.heap.size w wx → Calls Try.prog 6 #[.slice ao R ca] wx fun e w' => e = .returned (.int .i64 0) ∧ Below wx.heap.size wx w') := hT
  have HC : Hid (∀ wx, Below w.heap.size w wx → Calls Try.prog 10 #[.slice ao R ca] wx fun e w' => e = .returned (.int .i64 0) ∧ Below wx.heap.size wx w') := hC
  have HB : Hid (∀ wx, Below w.heap.size w wx → Calls Try.prog 7 #[.slice mo ml mc, .bool false] wx fun e w' => e = .returned (.bool false) ∧ Below wx.heap.size wx w') := hB
  have HN : Hid (∀ wx, Below w.heap.size w wx → Calls Try.prog 9 #[.slice ao R ca, .slice mo ml mc] wx fun e w' => e = .returned (.tuple #[.slice none 0 0, .int .i64 2]) ∧ Below wx.heap.size wx w') := hN
  have HM : Hid (∀ wx, Below w.heap.size w wx → Calls Try.prog 12 #[.slice ao R ca, .slice so l sc] wx fun e w' => e = .returned (.tuple #[.int .i64 (n : Nat), .int .i64 E]) ∧ Below wx.heap.size wx w') := hM
  have HL : Hid (∀ wx, Below w.heap.size w wx → Calls Try.prog 13 #[.slice ao R ca, .slice so l sc] wx fun e w' => e = .returned (.tuple #[.int .i64 (n : Nat), .int .i64 E]) ∧ Below wx.heap.size wx w') := hL
  have HK : Hid (∀ wx, Below w.heap.size w wx → Calls Try.prog 15 #[.slice ao R ca, .slice mo ml mc, .slice so l sc, .int .i64 (n : Nat), .int .i64 E] wx fun e w' => e = .returned (.bool true) ∧ Below wx.heap.size wx w') := hK
  have HS : Hid (∀ wx, Below w.heap.size w wx → Calls Try.prog 16 #[.slice ao R ca, .slice so l sc, .int .i64 (n : Nat), .int .i64 a, .int .i64 b, .int .i64 E] wx fun e w' => e = .returned (.bool true) ∧ Below wx.heap.size wx w') := hS
  clear hT hC hB hN hM hL hK hS hN1 hN2 hlen
  go_enter Try.func3, Try.ntmps3
  go_wp2_with fail
  refine (HT.out w (Below.refl _ _)).mono ?_
  rintro e w1 ⟨rfl, hb1⟩
  have X1 : Hid (Below w.heap.size w w1) := hb1
  clear hb1
  go_wp2_with fail
  refine (HB.out w1 X1.out).mono ?_
  rintro e w2 ⟨rfl, hb2⟩
  have X2 : Hid (Below w.heap.size w w2) := bel_up' X1.out hb2
  clear hb2
  go_wp2_with fail
  refine (HN.out w2 X2.out).mono ?_
  rintro e w3 ⟨rfl, hb3⟩
  have X3 : Hid (Below w.heap.size w w3) := bel_up' X2.out hb3
  clear hb3
  go_wp2_with fail
  refine (HC.out w3 X3.out).mono ?_
  rintro e w4 ⟨rfl, hb4⟩
  have X4 : Hid (Below w.heap.size w w4) := bel_up' X3.out hb4
  clear hb4
  go_wp2_with fail
  refine (list_err 2 (by decide) w4).mono ?_
  rintro e w' ⟨rfl, hw⟩
  have hw := hw.symm
  subst hw
  go_wp2_with fail
  refine (HM.out w4 X4.out).mono ?_
  rintro e w5 ⟨rfl, hb5⟩
  have X5 : Hid (Below w.heap.size w w5) := bel_up' X4.out hb5
  clear hb5
  go_wp2_with fail
  refine (HL.out w5 X5.out).mono ?_
  rintro e w6 ⟨rfl, hb6⟩
  have X6 : Hid (Below w.heap.size w w6) := bel_up' X5.out hb6
  clear hb6
  go_wp2_with fail
  refine (num_tr hn w6).mono ?_
  rintro e w' ⟨rfl, hw⟩
  have hw := hw.symm
  subst hw
  go_wp2_with fail
  refine (HK.out w6 X6.out).mono ?_
  rintro e w7 ⟨rfl, hb7⟩
  have X7 : Hid (Below w.heap.size w w7) := bel_up' X6.out hb7
  clear hb7
  go_wp2_with fail
  refine (HS.out w7 X7.out).mono ?_
  rintro e w8 ⟨rfl, hb8⟩
  have X8 : Hid (Below w.heap.size w w8) := bel_up' X7.out hb8
  clear hb8
  go_wp2
  go_ret
  exact ⟨by simp, X8.out⟩
set_option maxHeartbeats 4000000 in
set_option maxRecDepth 100000 in
theorem tsays_4 {ao mo so : Option Addr} {R ca ml mc l sc n : Nat} {a b E : Int} {L : List Int} {w : World} (hml : ml ≤ 20) (hlen : R + ml + l ≤ 300) (hn : E ≠ 0 → ((n : Nat) : Int) = 0)
    (hT : ∀ wx, Below w.heap.size w wx → Calls Try.prog 6 #[.slice ao R ca] wx fun e w' => e = .returned (.int .i64 0) ∧ Below wx.heap.size wx w')
    (hC : ∀ wx, Below w.heap.size w wx → Calls Try.prog 10 #[.slice ao R ca] wx fun e w' => e = .returned (.int .i64 0) ∧ Below wx.heap.size wx w')
    (hB : ∀ wx, Below w.heap.size w wx → Calls Try.prog 7 #[.slice mo ml mc, .bool false] wx fun e w' => e = .returned (.bool true) ∧ Below wx.heap.size wx w')
    (hG : ∀ wx, Below w.heap.size w wx → Calls Try.prog 8 #[.slice ao R ca, .slice mo ml mc] wx fun e w' => ∃ v, e = .returned v ∧ KI v L w' ∧ Below wx.heap.size wx w')
    (hN : ∀ wx, Below w.heap.size w wx → Calls Try.prog 9 #[.slice ao R ca, .slice mo ml mc] wx fun e w' => ∃ v, e = .returned (.tuple #[v, .int .i64 0]) ∧ KI v L w' ∧ Below wx.heap.size wx w')
    (hM : ∀ wx, Below w.heap.size w wx → Calls Try.prog 12 #[.slice ao R ca, .slice so l sc] wx fun e w' => e = .returned (.tuple #[.int .i64 (n : Nat), .int .i64 E]) ∧ Below wx.heap.size wx w')
    (hL : ∀ wx, Below w.heap.size w wx → Calls Try.prog 13 #[.slice ao R ca, .slice so l sc] wx fun e w' => e = .returned (.tuple #[.int .i64 (n : Nat), .int .i64 E]) ∧ Below wx.heap.size wx w')
    (hK : ∀ wx, Below w.heap.size w wx → Calls Try.prog 15 #[.slice ao R ca, .slice mo ml mc, .slice so l sc, .int .i64 (n : Nat), .int .i64 E] wx fun e w' => e = .returned (.bool true) ∧ Below wx.heap.size wx w')
    (hS : ∀ wx, Below w.heap.size w wx → Calls Try.prog 16 #[.slice ao R ca, .slice so l sc, .int .i64 (n : Nat), .int .i64 a, .int .i64 b, .int .i64 E] wx fun e w' => e = .returned (.bool true) ∧ Below wx.heap.size wx w') :
    Calls Try.prog 3 #[.slice ao R ca, .slice mo ml mc, .slice so l sc, .int .i64 a, .int .i64 b] w fun e w' => e = .returned (.bool true) ∧ Below w.heap.size w w' := by
  obtain ⟨N1, hN1⟩ : ∃ N1, N1 = R + ml := ⟨_, rfl⟩
  obtain ⟨N2, hN2⟩ : ∃ N2, N2 = N1 + l := ⟨_, rfl⟩
  have g1 : IntKind.i64.wrap ((R : Int) + (ml : Int)) = (N1 : Int) := wrap_to (by omega) (by omega)
  have g2 : IntKind.i64.wrap ((N1 : Int) + (l : Int)) = (N2 : Int) := wrap_to (by omega) (by omega)
  have g3 : ¬ (300 : Int) < (N2 : Int) := by omega
  have z1 : ¬ (20 : Int) < (ml : Int) := by omega
  have HT : Hid (∀ wx, Below w.heap.size w wx → Calls Try.prog 6 #[.slice ao R ca] wx fun e w' => e = .returned (.int .i64 0) ∧ Below wx.heap.size wx w') := hT
  have HC : Hid (∀ wx, Below w.heap.size w wx → Calls Try.prog 10 #[.slice ao R ca] wx fun e w' => e = .returned (.int .i64 0) ∧ Below wx.heap.size wx w') := hC
  have HB : Hid (∀ wx, Below w.heap.size w wx → Calls Try.prog 7 #[.slice mo ml mc, .bool false] wx fun e w' => e = .returned (.bool true) ∧ Below wx.heap.size wx w') := hB
  have HG : Hid (∀ wx, Below w.heap.size w wx → Calls Try.prog 8 #[.slice ao R ca, .slice mo ml mc] wx fun e w' => ∃ v, e = .returned v ∧ KI v L w' ∧ Below wx.heap.size wx w') := hG
  have HN : Hid (∀ wx, Below w.heap.size w wx → Calls Try.prog 9 #[.slice ao R ca, .slice mo ml mc] wx fun e w' => ∃ v, e = .returned (.tuple #[v, .int .i64 0]) ∧ KI v L w' ∧ Below wx.heap.size wx w') := hN
  have HM : Hid (∀ wx, Below w.heap.size w wx → Calls Try.prog 12 #[.slice ao R ca, .slice so l sc] wx fun e w' => e = .returned (.tuple #[.int .i64 (n : Nat), .int .i64 E]) ∧ Below wx.heap.size wx w') := hM
  have HL : Hid (∀ wx, Below w.heap.size w wx → Calls Try.prog 13 #[.slice ao R ca, .slice so l sc] wx fun e w' => e = .returned (.tuple #[.int .i64 (n : Nat), .int .i64 E]) ∧ Below wx.heap.size wx w') := hL
  have HK : Hid (∀ wx, Below w.heap.size w wx → Calls Try.prog 15 #[.slice ao R ca, .slice mo ml mc, .slice so l sc, .int .i64 (n : Nat), .int .i64 E] wx fun e w' => e = .returned (.bool true) ∧ Below wx.heap.size wx w') := hK
  have HS : Hid (∀ wx, Below w.heap.size w wx → Calls Try.prog 16 #[.slice ao R ca, .slice so l sc, .int .i64 (n : Nat), .int .i64 a, .int .i64 b, .int .i64 E] wx fun e w' => e = .returned (.bool true) ∧ Below wx.heap.size wx w') := hS
  clear hT hC hB hG hN hM hL hK hS hN1 hN2 hlen
  go_enter Try.func3, Try.ntmps3
  go_wp2_with fail
  refine (HT.out w (Below.refl _ _)).mono ?_
  rintro e w1 ⟨rfl, hb1⟩
  have X1 : Hid (Below w.heap.size w w1) := hb1
  clear hb1
  go_wp2_with fail
  refine (HB.out w1 X1.out).mono ?_
  rintro e w2 ⟨rfl, hb2⟩
  have X2 : Hid (Below w.heap.size w w2) := bel_up' X1.out hb2
  clear hb2
  go_wp2_with fail
  refine (HG.out w2 X2.out).mono ?_
  rintro e w3 ⟨v1, rfl, kv1, hb3⟩
  have X3 : Hid (Below w.heap.size w w3) := bel_up' X2.out hb3
  obtain ⟨o1, n1, c1, rfl⟩ := kv1.form
  have J1 : Hid (KI (.slice o1 n1 c1) L w3) := kv1
  clear kv1 hb3
  go_wp2_with fail
  refine (HN.out w3 X3.out).mono ?_
  rintro e w4 ⟨v2, rfl, kv2, hb4⟩
  have X4 : Hid (Below w.heap.size w w4) := bel_up' X3.out hb4
  obtain ⟨o2, n2, c2, rfl⟩ := kv2.form
  have J2 : Hid (KI (.slice o2 n2 c2) L w4 ∧ KI (.slice o1 n1 c1) L w4) := ⟨kv2, J1.out.below hb4⟩
  clear kv2 hb4
  go_wp2_with fail
  refine (HC.out w4 X4.out).mono ?_
  rintro e w5 ⟨rfl, hb5⟩
  have X5 : Hid (Below w.heap.size w w5) := bel_up' X4.out hb5
  have J3 : Hid (KI (.slice o2 n2 c2) L w5 ∧ KI (.slice o1 n1 c1) L w5) := ⟨J2.out.1.below hb5, J2.out.2.below hb5⟩
  clear hb5
  go_wp2_with fail
  refine (list_same J3.out.1.1 J3.out.2.1).mono ?_
  rintro e w6 ⟨rfl, d6, hw6⟩
  have X6 : Hid (Below w.heap.size w w6) := by rw [hw6]; exact below_drewN2 X5.out d6
  clear hw6
  go_wp2_with fail
  refine (HM.out w6 X6.out).mono ?_
  rintro e w7 ⟨rfl, hb7⟩
  have X7 : Hid (Below w.heap.size w w7) := bel_up' X6.out hb7
  clear hb7
  go_wp2_with fail
  refine (HL.out w7 X7.out).mono ?_
  rintro e w8 ⟨rfl, hb8⟩
  have X8 : Hid (Below w.heap.size w w8) := bel_up' X7.out hb8
  clear hb8
  go_wp2_with fail
  refine (num_tr hn w8).mono ?_
  rintro e w' ⟨rfl, hw⟩
  have hw := hw.symm
  subst hw
  go_wp2_with fail
  refine (HK.out w8 X8.out).mono ?_
  rintro e w9 ⟨rfl, hb9⟩
  have X9 : Hid (Below w.heap.size w w9) := bel_up' X8.out hb9
  clear hb9
  go_wp2_with fail
  refine (HS.out w9 X9.out).mono ?_
  rintro e w10 ⟨rfl, hb10⟩
  have X10 : Hid (Below w.heap.size w w10) := bel_up' X9.out hb10
  clear hb10
  go_wp2
  go_ret
  exact ⟨by simp, X10.out⟩
set_option maxHeartbeats 2000000 in
set_option maxRecDepth 100000 in
theorem tsays_long {ao mo so : Option Addr} {R ca ml mc l sc : Nat} {a b : Int} {w : World} (h1 : R ≤ 17592186044416) (h2 : ml ≤ 17592186044416) (h3 : l ≤ 17592186044416) (hlen : 300 < R + ml + l) :
    Calls Try.prog 3 #[.slice ao R ca, .slice mo ml mc, .slice so l sc, .int .i64 a, .int .i64 b] w fun e w' => e = .returned (.bool true) ∧ Below w.heap.size w w' := by
  obtain ⟨N1, hN1⟩ : ∃ N1, N1 = R + ml := ⟨_, rfl⟩
  obtain ⟨N2, hN2⟩ : ∃ N2, N2 = N1 + l := ⟨_, rfl⟩
  have g1 : IntKind.i64.wrap ((R : Int) + (ml : Int)) = (N1 : Int) := wrap_to (by omega) (by omega)
  have g2 : IntKind.i64.wrap ((N1 : Int) + (l : Int)) = (N2 : Int) := wrap_to (by omega) (by omega)
  have g3 : (300 : Int) < (N2 : Int) := by omega
  clear hN1 hN2 hlen
  go_enter Try.func3, Try.ntmps3
  go_wp2
  go_ret
  exact ⟨rfl, Below.refl _ _⟩

/-- Rules that may be, as whole numbers. -/
theorem rlz_of {ao : Option Addr} {R : Nat} {z : Nat → Int} {w : World} (hX : SlZ ao R z w) (hlt : LtB ao w.heap.size) (h : tck R z = 0) : RlA ao R (fun i => (z i).toNat) w := by
  obtain ⟨g1, g2, g3⟩ := tck_ok h
  refine ⟨⟨hX.at' (fun j hj => by have := g3 j hj; omega), by omega, by omega, fun i hi => by have := g3 i hi; omega, fun i hi => by have := g3 i hi; omega⟩, hlt⟩
theorem tsays_few {ao mo so : Option Addr} {R ca ml mc l sc : Nat} {a b : Int} {z x y : Nat → Int} {w : World} (hX : SlZ ao R z w) (hXl : LtB ao w.heap.size) (hM : SlZ mo ml x w) (hMl : LtB mo w.heap.size) (hY : SlZ so l y w) (hYl : LtB so w.heap.size) (hlen : R + ml + l ≤ 300) :
    Calls Try.prog 3 #[.slice ao R ca, .slice mo ml mc, .slice so l sc, .int .i64 a, .int .i64 b] w fun e w' => e = .returned (.bool true) ∧ Below w.heap.size w w' := by
  have cC : ∀ wx, Below w.heap.size w wx → Calls Try.prog 10 #[.slice ao R ca] wx fun e w' => e = .returned (.int .i64 (tck R z)) ∧ w' = wx := fun wx hb => tcheck_any (hX.below hb hXl) (by omega)
  have cT : ∀ wx, Below w.heap.size w wx → Calls Try.prog 6 #[.slice ao R ca] wx fun e w' => e = .returned (.int .i64 (tck R z)) ∧ w' = wx := fun wx hb => rtmay_any (hX.below hb hXl) (by omega)
  have sm : ∀ {f : Nat} {args : Array Value} {wx : World} {r : Ending}, (Calls Try.prog f args wx fun e w' => e = r ∧ w' = wx) → Calls Try.prog f args wx fun e w' => e = r ∧ Below wx.heap.size wx w' := fun h => h.mono fun _ _ ⟨h1, h2⟩ => ⟨h1, bel_same h2⟩
  have sd : ∀ {f : Nat} {args : Array Value} {wx : World} {r : Ending}, (Calls Try.prog f args wx fun e w' => e = r ∧ ∃ d, w' = wx.drewN d) → Calls Try.prog f args wx fun e w' => e = r ∧ Below wx.heap.size wx w' := fun h => h.mono fun _ _ ⟨h1, h2⟩ => ⟨h1, bel_drew h2⟩
  by_cases h0 : tck R z = 0
  · rw [h0] at cC cT
    have hA := rlz_of hX hXl h0
    have hk0 : lgE (mmr (fun i => (z i).toNat) R) R l y ≠ 0 → ((lgN (mmr (fun i => (z i).toNat) R) R l y : Nat) : Int) = 0 := fun h => by unfold lgN; rw [if_neg h]; rfl
    have cM : ∀ wx, Below w.heap.size w wx → Calls Try.prog 12 #[.slice ao R ca, .slice so l sc] wx fun e w' => e = .returned (.tuple #[.int .i64 (lgN (mmr (fun i => (z i).toNat) R) R l y : Nat), .int .i64 (lgE (mmr (fun i => (z i).toNat) R) R l y)]) ∧ Below wx.heap.size wx w' := fun wx hb => sd (rsmay_any (hA.below hb).rz (hY.below hb hYl) (by omega))
    have cL : ∀ wx, Below w.heap.size w wx → Calls Try.prog 13 #[.slice ao R ca, .slice so l sc] wx fun e w' => e = .returned (.tuple #[.int .i64 (lgN (mmr (fun i => (z i).toNat) R) R l y : Nat), .int .i64 (lgE (mmr (fun i => (z i).toNat) R) R l y)]) ∧ Below wx.heap.size wx w' := fun wx hb => sd (tlength_any (hA.below hb).rz (hY.below hb hYl) (by omega))
    have cK : ∀ wx, Below w.heap.size w wx → Calls Try.prog 15 #[.slice ao R ca, .slice mo ml mc, .slice so l sc, .int .i64 (lgN (mmr (fun i => (z i).toNat) R) R l y : Nat), .int .i64 (lgE (mmr (fun i => (z i).toNat) R) R l y)] wx fun e w' => e = .returned (.bool true) ∧ Below wx.heap.size wx w' := fun wx hb => tlik_any (hA.below hb) (hM.below hb hMl) (hMl.mono hb.size) (by omega) (hY.below hb hYl) (hYl.mono hb.size) (by omega)
    have cS : ∀ wx, Below w.heap.size w wx → Calls Try.prog 16 #[.slice ao R ca, .slice so l sc, .int .i64 (lgN (mmr (fun i => (z i).toNat) R) R l y : Nat), .int .i64 a, .int .i64 b, .int .i64 (lgE (mmr (fun i => (z i).toNat) R) R l y)] wx fun e w' => e = .returned (.bool true) ∧ Below wx.heap.size wx w' := fun wx hb => tspk_any (hA.below hb) (hY.below hb hYl) (hYl.mono hb.size) (by omega)
    by_cases h20 : 20 < ml
    · exact tsays_2 h20 hlen hk0 (fun wx hb => sm (cT wx hb)) (fun wx hb => sm (cC wx hb)) (fun wx hb => sm (tencode_e2 (cC wx hb) h20)) cM cL cK cS
    · have cB : ∀ wx, Below w.heap.size w wx → Calls Try.prog 7 #[.slice mo ml mc, .bool false] wx fun e w' => e = .returned (.bool (allP isbt x ml)) ∧ w' = wx := fun wx hb => rbits_any false (hM.below hb hMl) (by omega)
      cases hb0 : allP isbt x ml with
      | false =>
        rw [hb0] at cB
        exact tsays_3 (by omega) hlen hk0 (fun wx hb => sm (cT wx hb)) (fun wx hb => sm (cC wx hb)) (fun wx hb => sm (cB wx hb)) (fun wx hb => sm (tencode_e3 (cC wx hb) (by omega) (hM.below hb hMl) hb0)) cM cL cK cS
      | true =>
        rw [hb0] at cB
        have hbt : ∀ j, j < ml → x j = 0 ∨ x j = 1 := fun j hj => by have := allP_iff ml hb0 j hj; unfold isbt at this; simpa using this
        have hB : ∀ wx, Below w.heap.size w wx → BtA mo ml (fun i => (x i).toNat) wx := fun wx hb => ⟨(hM.below hb hMl).at' (fun j hj => by rcases hbt j hj with e | e <;> rw [e] <;> rfl), hMl.mono hb.size, fun i hi => by rcases hbt i hi with e | e <;> rw [e] <;> decide⟩
        have hlen2 : (sgL (fun i => (z i).toNat) R (fun i => (x i).toNat) ml (R * (ml + mmr (fun i => (z i).toNat) R))).length ≤ 1000000 := by
          rw [sgL_len]
          have h1 := mmr_le (fun i => (z i).toNat) R
          have h2 : R * (ml + mmr (fun i => (z i).toNat) R) ≤ 300 * 24 := Nat.mul_le_mul (by omega) (by omega)
          omega
        exact tsays_4 (L := sgL (fun i => (z i).toNat) R (fun i => (x i).toNat) ml (R * (ml + mmr (fun i => (z i).toNat) R))) (by omega) hlen hk0 (fun wx hb => sm (cT wx hb)) (fun wx hb => sm (cC wx hb)) (fun wx hb => sm (cB wx hb))
          (fun wx hb => (rsigns_any (hA.below hb) (hB wx hb) (by omega)).mono fun _ _ ⟨v, h1, h2, h3⟩ => ⟨v, h1, h2.ki hlen2, h3⟩)
          (fun wx hb => (tencode_ok (hA.below hb) (hB wx hb) (by omega)).mono fun _ _ ⟨v, h1, h2, h3⟩ => ⟨v, h1, h2.ki hlen2, h3⟩) cM cL cK cS
  · exact tsays_1 (n := 0) (E := tck R z) h0 hlen (fun _ => rfl) (fun wx hb => sm (cT wx hb)) (fun wx hb => sm (cC wx hb)) (fun wx hb => sm (tencode_e1 h0 (cC wx hb)))
      (fun wx hb => sm (rsmay_e1 h0 (cT wx hb))) (fun wx hb => sm (tlength_e1 h0 (cC wx hb)))
      (fun wx hb => tlik_e (n := 0) h0 (tvit_e h0 (fun wy hy => (tlength_e1 h0 (cC wy (bel_up' hb hy))).mono fun _ _ ⟨h1, h2⟩ => ⟨h1, 0, h2⟩)))
      (fun wx hb => tspk_bad h0 (fun wy hy => cC wy (bel_up' hb hy)))
theorem trellisSays_walk {ao mo so : Option Addr} {R ca ml mc l sc : Nat} {a b : Int} {z x y : Nat → Int} {w : World} (hX : ArgL ao R ca z w) (hM : ArgL mo ml mc x w) (hY : ArgL so l sc y w) (h1 : R ≤ 17592186044416) (h2 : ml ≤ 17592186044416) (h3 : l ≤ 17592186044416) :
    Calls Try.prog 3 #[.slice ao R ca, .slice mo ml mc, .slice so l sc, .int .i64 a, .int .i64 b] w fun e w' => e = .returned (.bool true) ∧ Below w.heap.size w w' := by
  by_cases hlen : 300 < R + ml + l
  · exact tsays_long h1 h2 h3 hlen
  · exact tsays_few hX.sl hX.lt hM.sl hM.lt hY.sl hY.lt (by omega)
end Go.Proofs.Ytlljaliemldjkaa
