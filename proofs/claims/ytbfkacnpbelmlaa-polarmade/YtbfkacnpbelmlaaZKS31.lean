/- Polar: the walks of PolarSays (printed by make/ks31.py). -/
import Derived.Test.YtbfkacnpbelmlaaZKS30
import Derived.Test.YtbfkacnpbelmlaaZL1
namespace Go.Proofs.Ytbfkacnpbelmlaa
open Go.RowKit Go.Sort

/-- A list of numbers where it lies. -/
def SL (fo : Option Addr) (k : Nat) (p : Nat → Int) (w : World) : Prop := SlZ fo k p w ∧ LtB fo w.heap.size
theorem SL.below {fo : Option Addr} {k : Nat} {p : Nat → Int} {w w' : World} (h : SL fo k p w) (hb : Below w.heap.size w w') : SL fo k p w' := slz_bel h hb
theorem SL.sl {fo : Option Addr} {k c : Nat} {p : Nat → Int} {w : World} (h : SL fo k p w) (hk : k ≤ 100) : SliceI (.slice fo k c) (zl k p) w := rp_slI h.1 (by omega)
/-- What a call answers that tells a list of numbers. -/
def TlL (l : List Int) (w : World) (e : Ending) (w' : World) : Prop := ∃ v, e = .returned v ∧ KI v l w' ∧ Below w.heap.size w w'
/-- The same, beside no error. -/
def TlZ (l : List Int) (w : World) (e : Ending) (w' : World) : Prop := ∃ v, e = .returned (.tuple #[v, .int .i64 0]) ∧ KI v l w' ∧ Below w.heap.size w w'
/-- An error alone. -/
def TlE (E : Int) (w : World) (e : Ending) (w' : World) : Prop := e = .returned (.tuple #[.slice none 0 0, .int .i64 E]) ∧ Below w.heap.size w w'

set_option maxHeartbeats 8000000 in
set_option maxRecDepth 100000 in
theorem psays_lo {m : Int} (hm : m < 0)
    {k : Int}
    {ao : Option Addr} {n c : Nat} {w : World} (hn : n ≤ 100)
    (hCh : ∀ w1, Below w.heap.size w w1 → Calls Try.prog 7 #[.int .i64 m] w1 (TlE 4 w1))
    (hBe : ∀ w1, Below w.heap.size w w1 → Calls Try.prog 9 #[.int .i64 m, .int .i64 k] w1 (TlE 4 w1))
    (hTr : ∀ w1, Below w.heap.size w w1 → Calls Try.prog 13 #[.int .i64 m, .slice ao n c] w1 (TlE 4 w1))
    (hPm : ∀ w1, Below w.heap.size w w1 → Calls Try.prog 14 #[.int .i64 m, .slice ao n c] w1 fun e w' => e = .returned (.int .i64 4) ∧ w' = w1)
    (hEn : ∀ w1, Below w.heap.size w w1 → Calls Try.prog 16 #[.int .i64 m, .slice ao n c] w1 (TlE 4 w1))
    (hPR : ∀ w1, Below w.heap.size w w1 → Calls Try.prog 17 #[.int .i64 m, .int .i64 k, .slice ao n c, .slice none 0 0, .int .i64 4] w1 fun e w' => e = .returned (.bool true) ∧ Below w1.heap.size w1 w') :
    Calls Try.prog 3 #[.int .i64 m, .int .i64 k, .slice ao n c] w fun e w' => e = .returned (.bool true) ∧ Below w.heap.size w w' := by
  have HCh : Hid _ := hCh
  have HBe : Hid _ := hBe
  have HTr : Hid _ := hTr
  have HPm : Hid _ := hPm
  have HEn : Hid _ := hEn
  have HPR : Hid _ := hPR
  have hn1 : ¬ (n : Int) > 100 := by omega
  have hn2 : ¬ (100 : Int) < (n : Int) := by omega
  clear hCh hBe hTr hPm hEn hPR
  go_enter Try.func3, Try.ntmps3
  go_wp2_with fail
  refine (HCh.out w (Below.refl _ _)).mono ?_
  rintro e w1 ⟨rfl, hb⟩
  have H1 : Hid (Below w.heap.size w w1) := bel_up' (Below.refl _ _) hb
  clear hb
  go_wp2_with fail
  refine (HBe.out w1 H1.out).mono ?_
  rintro e w2 ⟨rfl, hb⟩
  have H2 : Hid (Below w.heap.size w w2) := bel_up' H1.out hb
  clear hb
  have HL2 : Hid (Calls Try.prog 10 #[.slice none 0 0, .int .i64 4, .slice none 0 0, .int .i64 4] w2 fun r w' => r = .returned (.bool true) ∧ ∃ n, w' = w2.drewN n) := list_gen (Or.inl ⟨by decide, none, 0, rfl⟩)
  go_wp2_with fail
  refine HL2.out.mono ?_
  rintro e w3 ⟨rfl, nn, hw⟩
  have hb : Below w2.heap.size w2 w3 := by rw [hw]; exact bel_drewN (Below.refl _ _) _
  have H3 : Hid (Below w.heap.size w w3) := bel_up' H2.out hb
  clear hb hw HL2
  have HL3 : Hid (Calls Try.prog 10 #[.slice none 0 0, .int .i64 4, .slice none 0 0, .int .i64 4] w3 fun r w' => r = .returned (.bool true) ∧ ∃ n, w' = w3.drewN n) := list_gen (Or.inl ⟨by decide, none, 0, rfl⟩)
  go_wp2_with fail
  refine HL3.out.mono ?_
  rintro e w4 ⟨rfl, nn, hw⟩
  have hb : Below w3.heap.size w3 w4 := by rw [hw]; exact bel_drewN (Below.refl _ _) _
  have H4 : Hid (Below w.heap.size w w4) := bel_up' H3.out hb
  clear hb hw HL3
  go_wp2_with fail
  refine (HTr.out w4 H4.out).mono ?_
  rintro e w5 ⟨rfl, hb⟩
  have H5 : Hid (Below w.heap.size w w5) := bel_up' H4.out hb
  clear hb
  go_wp2_with fail
  refine (HPm.out w5 H5.out).mono ?_
  rintro e w' ⟨rfl, hw⟩
  have hw := hw.symm
  subst hw
  go_wp2_with fail
  refine (HEn.out w5 H5.out).mono ?_
  rintro e w6 ⟨rfl, hb⟩
  have H6 : Hid (Below w.heap.size w w6) := bel_up' H5.out hb
  clear hb
  have HL6 : Hid (Calls Try.prog 10 #[.slice none 0 0, .int .i64 4, .slice none 0 0, .int .i64 4] w6 fun r w' => r = .returned (.bool true) ∧ ∃ n, w' = w6.drewN n) := list_gen (Or.inl ⟨by decide, none, 0, rfl⟩)
  go_wp2_with fail
  refine HL6.out.mono ?_
  rintro e w7 ⟨rfl, nn, hw⟩
  have hb : Below w6.heap.size w6 w7 := by rw [hw]; exact bel_drewN (Below.refl _ _) _
  have H7 : Hid (Below w.heap.size w w7) := bel_up' H6.out hb
  clear hb hw HL6
  have HL7 : Hid (Calls Try.prog 10 #[.slice none 0 0, .int .i64 4, .slice none 0 0, .int .i64 4] w7 fun r w' => r = .returned (.bool true) ∧ ∃ n, w' = w7.drewN n) := list_gen (Or.inl ⟨by decide, none, 0, rfl⟩)
  go_wp2_with fail
  refine HL7.out.mono ?_
  rintro e w8 ⟨rfl, nn, hw⟩
  have hb : Below w7.heap.size w7 w8 := by rw [hw]; exact bel_drewN (Below.refl _ _) _
  have H8 : Hid (Below w.heap.size w w8) := bel_up' H7.out hb
  clear hb hw HL7
  go_wp2_with fail
  refine (HPR.out w8 H8.out).mono ?_
  rintro e w9 ⟨rfl, hb⟩
  have H9 : Hid (Below w.heap.size w w9) := bel_up' H8.out hb
  clear hb
  go_wp2
  go_ret
  exact ⟨rfl, H9.out⟩

set_option maxHeartbeats 8000000 in
set_option maxRecDepth 100000 in
theorem psays_hi {m : Int} (hm : 5 < m)
    {k : Int}
    {ao : Option Addr} {n c : Nat} {w : World} (hn : n ≤ 100)
    (hCh : ∀ w1, Below w.heap.size w w1 → Calls Try.prog 7 #[.int .i64 m] w1 (TlE 4 w1))
    (hBe : ∀ w1, Below w.heap.size w w1 → Calls Try.prog 9 #[.int .i64 m, .int .i64 k] w1 (TlE 4 w1))
    (hTr : ∀ w1, Below w.heap.size w w1 → Calls Try.prog 13 #[.int .i64 m, .slice ao n c] w1 (TlE 4 w1))
    (hPm : ∀ w1, Below w.heap.size w w1 → Calls Try.prog 14 #[.int .i64 m, .slice ao n c] w1 fun e w' => e = .returned (.int .i64 4) ∧ w' = w1)
    (hEn : ∀ w1, Below w.heap.size w w1 → Calls Try.prog 16 #[.int .i64 m, .slice ao n c] w1 (TlE 4 w1))
    (hPR : ∀ w1, Below w.heap.size w w1 → Calls Try.prog 17 #[.int .i64 m, .int .i64 k, .slice ao n c, .slice none 0 0, .int .i64 4] w1 fun e w' => e = .returned (.bool true) ∧ Below w1.heap.size w1 w') :
    Calls Try.prog 3 #[.int .i64 m, .int .i64 k, .slice ao n c] w fun e w' => e = .returned (.bool true) ∧ Below w.heap.size w w' := by
  have HCh : Hid _ := hCh
  have HBe : Hid _ := hBe
  have HTr : Hid _ := hTr
  have HPm : Hid _ := hPm
  have HEn : Hid _ := hEn
  have HPR : Hid _ := hPR
  have hn1 : ¬ (n : Int) > 100 := by omega
  have hn2 : ¬ (100 : Int) < (n : Int) := by omega
  have hm1 : m > 5 := hm
  have hm2 : ¬ m < 0 := by omega
  clear hCh hBe hTr hPm hEn hPR
  go_enter Try.func3, Try.ntmps3
  go_wp2_with fail
  refine (HCh.out w (Below.refl _ _)).mono ?_
  rintro e w1 ⟨rfl, hb⟩
  have H1 : Hid (Below w.heap.size w w1) := bel_up' (Below.refl _ _) hb
  clear hb
  go_wp2_with fail
  refine (HBe.out w1 H1.out).mono ?_
  rintro e w2 ⟨rfl, hb⟩
  have H2 : Hid (Below w.heap.size w w2) := bel_up' H1.out hb
  clear hb
  have HL2 : Hid (Calls Try.prog 10 #[.slice none 0 0, .int .i64 4, .slice none 0 0, .int .i64 4] w2 fun r w' => r = .returned (.bool true) ∧ ∃ n, w' = w2.drewN n) := list_gen (Or.inl ⟨by decide, none, 0, rfl⟩)
  go_wp2_with fail
  refine HL2.out.mono ?_
  rintro e w3 ⟨rfl, nn, hw⟩
  have hb : Below w2.heap.size w2 w3 := by rw [hw]; exact bel_drewN (Below.refl _ _) _
  have H3 : Hid (Below w.heap.size w w3) := bel_up' H2.out hb
  clear hb hw HL2
  have HL3 : Hid (Calls Try.prog 10 #[.slice none 0 0, .int .i64 4, .slice none 0 0, .int .i64 4] w3 fun r w' => r = .returned (.bool true) ∧ ∃ n, w' = w3.drewN n) := list_gen (Or.inl ⟨by decide, none, 0, rfl⟩)
  go_wp2_with fail
  refine HL3.out.mono ?_
  rintro e w4 ⟨rfl, nn, hw⟩
  have hb : Below w3.heap.size w3 w4 := by rw [hw]; exact bel_drewN (Below.refl _ _) _
  have H4 : Hid (Below w.heap.size w w4) := bel_up' H3.out hb
  clear hb hw HL3
  go_wp2_with fail
  refine (HTr.out w4 H4.out).mono ?_
  rintro e w5 ⟨rfl, hb⟩
  have H5 : Hid (Below w.heap.size w w5) := bel_up' H4.out hb
  clear hb
  go_wp2_with fail
  refine (HPm.out w5 H5.out).mono ?_
  rintro e w' ⟨rfl, hw⟩
  have hw := hw.symm
  subst hw
  go_wp2_with fail
  refine (HEn.out w5 H5.out).mono ?_
  rintro e w6 ⟨rfl, hb⟩
  have H6 : Hid (Below w.heap.size w w6) := bel_up' H5.out hb
  clear hb
  have HL6 : Hid (Calls Try.prog 10 #[.slice none 0 0, .int .i64 4, .slice none 0 0, .int .i64 4] w6 fun r w' => r = .returned (.bool true) ∧ ∃ n, w' = w6.drewN n) := list_gen (Or.inl ⟨by decide, none, 0, rfl⟩)
  go_wp2_with fail
  refine HL6.out.mono ?_
  rintro e w7 ⟨rfl, nn, hw⟩
  have hb : Below w6.heap.size w6 w7 := by rw [hw]; exact bel_drewN (Below.refl _ _) _
  have H7 : Hid (Below w.heap.size w w7) := bel_up' H6.out hb
  clear hb hw HL6
  have HL7 : Hid (Calls Try.prog 10 #[.slice none 0 0, .int .i64 4, .slice none 0 0, .int .i64 4] w7 fun r w' => r = .returned (.bool true) ∧ ∃ n, w' = w7.drewN n) := list_gen (Or.inl ⟨by decide, none, 0, rfl⟩)
  go_wp2_with fail
  refine HL7.out.mono ?_
  rintro e w8 ⟨rfl, nn, hw⟩
  have hb : Below w7.heap.size w7 w8 := by rw [hw]; exact bel_drewN (Below.refl _ _) _
  have H8 : Hid (Below w.heap.size w w8) := bel_up' H7.out hb
  clear hb hw HL7
  go_wp2_with fail
  refine (HPR.out w8 H8.out).mono ?_
  rintro e w9 ⟨rfl, hb⟩
  have H9 : Hid (Below w.heap.size w w9) := bel_up' H8.out hb
  clear hb
  go_wp2
  go_ret
  exact ⟨rfl, H9.out⟩

end Go.Proofs.Ytbfkacnpbelmlaa
