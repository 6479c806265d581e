/- Polar: more walks of PolarSays (printed by make/ks31.py). -/
import Derived.Test.YtbfkacnpbelmlaaZKS31
namespace Go.Proofs.Ytbfkacnpbelmlaa
open Go.RowKit Go.Sort

set_option maxHeartbeats 8000000 in
set_option maxRecDepth 100000 in
theorem psays_oklogt {m N : Nat} (hm : m ≤ 5) (hN : N = 2 ^ m)
    {k : Int}
    (hk : k < 0)
    {ao : Option Addr} {n c : Nat} {w : World} (hn : n ≤ 100)
    (hnN : N < n)
    {lc : List Int}
    (hLo : ∀ w1, Below w.heap.size w w1 → Calls Try.prog 6 #[.int .i64 (m : Nat)] w1 (TlL lc w1))
    (hCh : ∀ w1, Below w.heap.size w w1 → Calls Try.prog 7 #[.int .i64 (m : Nat)] w1 (TlZ lc w1))
    (hBe : ∀ w1, Below w.heap.size w w1 → Calls Try.prog 9 #[.int .i64 (m : Nat), .int .i64 k] w1 (TlE 6 w1))
    (hTr : ∀ w1, Below w.heap.size w w1 → Calls Try.prog 13 #[.int .i64 (m : Nat), .slice ao n c] w1 (TlE 6 w1))
    (hPm : ∀ w1, Below w.heap.size w w1 → Calls Try.prog 14 #[.int .i64 (m : Nat), .slice ao n c] w1 fun e w' => e = .returned (.int .i64 6) ∧ w' = w1)
    (hEn : ∀ w1, Below w.heap.size w w1 → Calls Try.prog 16 #[.int .i64 (m : Nat), .slice ao n c] w1 (TlE 6 w1))
    (hPR : ∀ w1, Below w.heap.size w w1 → Calls Try.prog 17 #[.int .i64 (m : Nat), .int .i64 k, .slice ao n c, .slice none 0 0, .int .i64 6] w1 fun e w' => e = .returned (.bool true) ∧ Below w1.heap.size w1 w') :
    Calls Try.prog 3 #[.int .i64 (m : Nat), .int .i64 k, .slice ao n c] w fun e w' => e = .returned (.bool true) ∧ Below w.heap.size w w' := by
  have HLo : Hid _ := hLo
  have HCh : Hid _ := hCh
  have HBe : Hid _ := hBe
  have HTr : Hid _ := hTr
  have HPm : Hid _ := hPm
  have HEn : Hid _ := hEn
  have HPR : Hid _ := hPR
  have hn1 : ¬ (n : Int) > 100 := by omega
  have hn2 : ¬ (100 : Int) < (n : Int) := by omega
  have hm1 : ¬ (m : Int) > 5 := by omega
  have hm2 : ¬ (5 : Int) < (m : Int) := by omega
  have hNb : N ≤ 32 := by rw [hN]; exact Nat.le_trans (Nat.pow_le_pow_right (by omega) hm) (by decide)
  have hNi : (2 : Int) ^ m = (N : Int) := by rw [hN]; simp
  have hNw : IntKind.i64.wrap (N : Int) = (N : Int) := wrap_to rfl (by omega)
  have hnb : ((n : Int) != (N : Int)) = true := bne_iff_ne.2 (by omega)
  clear hnN
  clear hN
  clear hLo hCh hBe hTr hPm hEn hPR
  go_enter Try.func3, Try.ntmps3
  go_wp2_with fail
  refine (HLo.out w (Below.refl _ _)).mono ?_
  rintro e w1 ⟨vl, rfl, hv, hb⟩
  have H1 : Hid (Below w.heap.size w w1 ∧ KI vl lc w1) := ⟨bel_up' (Below.refl _ _) hb, hv⟩
  clear hb hv
  go_wp2_with fail
  refine (HCh.out w1 H1.out.1).mono ?_
  rintro e w2 ⟨vc, rfl, hv, hb⟩
  have H2 : Hid (Below w.heap.size w w2 ∧ KI vl lc w2 ∧ KI vc lc w2) := ⟨bel_up' H1.out.1 hb, (H1.out.2.below hb), hv⟩
  clear hb hv
  go_wp2_with fail
  refine (HBe.out w2 H2.out.1).mono ?_
  rintro e w3 ⟨rfl, hb⟩
  have H3 : Hid (Below w.heap.size w w3 ∧ KI vl lc w3 ∧ KI vc lc w3) := ⟨bel_up' H2.out.1 hb, (H2.out.2.1.below hb), (H2.out.2.2.below hb)⟩
  clear hb
  have HL3 : Hid (Calls Try.prog 10 #[vc, .int .i64 0, vl, .int .i64 0] w3 fun r w' => r = .returned (.bool true) ∧ ∃ n, w' = w3.drewN n) := list_gen (Or.inr ⟨rfl, lc, H3.out.2.2.1, H3.out.2.1.1⟩)
  go_wp2_with fail
  refine HL3.out.mono ?_
  rintro e w4 ⟨rfl, nn, hw⟩
  have hb : Below w3.heap.size w3 w4 := by rw [hw]; exact bel_drewN (Below.refl _ _) _
  have H4 : Hid (Below w.heap.size w w4) := bel_up' H3.out.1 hb
  clear hb hw HL3
  have HL4 : Hid (Calls Try.prog 10 #[.slice none 0 0, .int .i64 6, .slice none 0 0, .int .i64 6] w4 fun r w' => r = .returned (.bool true) ∧ ∃ n, w' = w4.drewN n) := list_gen (Or.inl ⟨by decide, none, 0, rfl⟩)
  go_wp2_with fail
  refine HL4.out.mono ?_
  rintro e w5 ⟨rfl, nn, hw⟩
  have hb : Below w4.heap.size w4 w5 := by rw [hw]; exact bel_drewN (Below.refl _ _) _
  have H5 : Hid (Below w.heap.size w w5) := bel_up' H4.out hb
  clear hb hw HL4
  go_wp2_with fail
  refine (HTr.out w5 H5.out).mono ?_
  rintro e w6 ⟨rfl, hb⟩
  have H6 : Hid (Below w.heap.size w w6) := bel_up' H5.out hb
  clear hb
  go_wp2_with fail
  refine (HPm.out w6 H6.out).mono ?_
  rintro e w' ⟨rfl, hw⟩
  have hw := hw.symm
  subst hw
  go_wp2_with fail
  refine (HEn.out w6 H6.out).mono ?_
  rintro e w7 ⟨rfl, hb⟩
  have H7 : Hid (Below w.heap.size w w7) := bel_up' H6.out hb
  clear hb
  have HL7 : Hid (Calls Try.prog 10 #[.slice none 0 0, .int .i64 6, .slice none 0 0, .int .i64 6] w7 fun r w' => r = .returned (.bool true) ∧ ∃ n, w' = w7.drewN n) := list_gen (Or.inl ⟨by decide, none, 0, rfl⟩)
  go_wp2_with fail
  refine HL7.out.mono ?_
  rintro e w8 ⟨rfl, nn, hw⟩
  have hb : Below w7.heap.size w7 w8 := by rw [hw]; exact bel_drewN (Below.refl _ _) _
  have H8 : Hid (Below w.heap.size w w8) := bel_up' H7.out hb
  clear hb hw HL7
  have HL8 : Hid (Calls Try.prog 10 #[.slice none 0 0, .int .i64 6, .slice none 0 0, .int .i64 6] w8 fun r w' => r = .returned (.bool true) ∧ ∃ n, w' = w8.drewN n) := list_gen (Or.inl ⟨by decide, none, 0, rfl⟩)
  go_wp2_with fail
  refine HL8.out.mono ?_
  rintro e w9 ⟨rfl, nn, hw⟩
  have hb : Below w8.heap.size w8 w9 := by rw [hw]; exact bel_drewN (Below.refl _ _) _
  have H9 : Hid (Below w.heap.size w w9) := bel_up' H8.out hb
  clear hb hw HL8
  go_wp2_with fail
  refine (HPR.out w9 H9.out).mono ?_
  rintro e w10 ⟨rfl, hb⟩
  have H10 : Hid (Below w.heap.size w w10) := bel_up' H9.out hb
  clear hb
  go_wp2
  go_ret
  exact ⟨rfl, H10.out⟩

set_option maxHeartbeats 8000000 in
set_option maxRecDepth 100000 in
theorem psays_okloltB {m N : Nat} (hm : m ≤ 5) (hN : N = 2 ^ m)
    {k : Int}
    (hk : k < 0)
    {ao : Option Addr} {n c : Nat} {w : World} (hn : n ≤ 100)
    (hnN : n < N)
    {lc lw : List Int}
    (hLo : ∀ w1, Below w.heap.size w w1 → Calls Try.prog 6 #[.int .i64 (m : Nat)] w1 (TlL lc w1))
    (hCh : ∀ w1, Below w.heap.size w w1 → Calls Try.prog 7 #[.int .i64 (m : Nat)] w1 (TlZ lc w1))
    (hBe : ∀ w1, Below w.heap.size w w1 → Calls Try.prog 9 #[.int .i64 (m : Nat), .int .i64 k] w1 (TlE 6 w1))
    (hTr : ∀ w1, Below w.heap.size w w1 → Calls Try.prog 13 #[.int .i64 (m : Nat), .slice ao n c] w1 (TlE 6 w1))
    (hPm : ∀ w1, Below w.heap.size w w1 → Calls Try.prog 14 #[.int .i64 (m : Nat), .slice ao n c] w1 fun e w' => e = .returned (.int .i64 0) ∧ w' = w1)
    (hPw : ∀ w1, Below w.heap.size w w1 → Calls Try.prog 15 #[.int .i64 (m : Nat), .slice ao n c] w1 (TlL lw w1))
    (hEn : ∀ w1, Below w.heap.size w w1 → Calls Try.prog 16 #[.int .i64 (m : Nat), .slice ao n c] w1 (TlZ lw w1))
    (hPR : ∀ w1, Below w.heap.size w w1 → Calls Try.prog 17 #[.int .i64 (m : Nat), .int .i64 k, .slice ao n c, .slice none 0 0, .int .i64 6] w1 fun e w' => e = .returned (.bool true) ∧ Below w1.heap.size w1 w') :
    Calls Try.prog 3 #[.int .i64 (m : Nat), .int .i64 k, .slice ao n c] w fun e w' => e = .returned (.bool true) ∧ Below w.heap.size w w' := by
  have HLo : Hid _ := hLo
  have HCh : Hid _ := hCh
  have HBe : Hid _ := hBe
  have HTr : Hid _ := hTr
  have HPm : Hid _ := hPm
  have HPw : Hid _ := hPw
  have HEn : Hid _ := hEn
  have HPR : Hid _ := hPR
  have hn1 : ¬ (n : Int) > 100 := by omega
  have hn2 : ¬ (100 : Int) < (n : Int) := by omega
  have hm1 : ¬ (m : Int) > 5 := by omega
  have hm2 : ¬ (5 : Int) < (m : Int) := by omega
  have hNb : N ≤ 32 := by rw [hN]; exact Nat.le_trans (Nat.pow_le_pow_right (by omega) hm) (by decide)
  have hNi : (2 : Int) ^ m = (N : Int) := by rw [hN]; simp
  have hNw : IntKind.i64.wrap (N : Int) = (N : Int) := wrap_to rfl (by omega)
  have hnb : ((n : Int) != (N : Int)) = true := bne_iff_ne.2 (by omega)
  clear hnN
  clear hN
  clear hLo hCh hBe hTr hPm hPw hEn hPR
  go_enter Try.func3, Try.ntmps3
  go_wp2_with fail
  refine (HLo.out w (Below.refl _ _)).mono ?_
  rintro e w1 ⟨vl, rfl, hv, hb⟩
  have H1 : Hid (Below w.heap.size w w1 ∧ KI vl lc w1) := ⟨bel_up' (Below.refl _ _) hb, hv⟩
  clear hb hv
  go_wp2_with fail
  refine (HCh.out w1 H1.out.1).mono ?_
  rintro e w2 ⟨vc, rfl, hv, hb⟩
  have H2 : Hid (Below w.heap.size w w2 ∧ KI vl lc w2 ∧ KI vc lc w2) := ⟨bel_up' H1.out.1 hb, (H1.out.2.below hb), hv⟩
  clear hb hv
  go_wp2_with fail
  refine (HBe.out w2 H2.out.1).mono ?_
  rintro e w3 ⟨rfl, hb⟩
  have H3 : Hid (Below w.heap.size w w3 ∧ KI vl lc w3 ∧ KI vc lc w3) := ⟨bel_up' H2.out.1 hb, (H2.out.2.1.below hb), (H2.out.2.2.below hb)⟩
  clear hb
  have HL3 : Hid (Calls Try.prog 10 #[vc, .int .i64 0, vl, .int .i64 0] w3 fun r w' => r = .returned (.bool true) ∧ ∃ n, w' = w3.drewN n) := list_gen (Or.inr ⟨rfl, lc, H3.out.2.2.1, H3.out.2.1.1⟩)
  go_wp2_with fail
  refine HL3.out.mono ?_
  rintro e w4 ⟨rfl, nn, hw⟩
  have hb : Below w3.heap.size w3 w4 := by rw [hw]; exact bel_drewN (Below.refl _ _) _
  have H4 : Hid (Below w.heap.size w w4) := bel_up' H3.out.1 hb
  clear hb hw HL3
  have HL4 : Hid (Calls Try.prog 10 #[.slice none 0 0, .int .i64 6, .slice none 0 0, .int .i64 6] w4 fun r w' => r = .returned (.bool true) ∧ ∃ n, w' = w4.drewN n) := list_gen (Or.inl ⟨by decide, none, 0, rfl⟩)
  go_wp2_with fail
  refine HL4.out.mono ?_
  rintro e w5 ⟨rfl, nn, hw⟩
  have hb : Below w4.heap.size w4 w5 := by rw [hw]; exact bel_drewN (Below.refl _ _) _
  have H5 : Hid (Below w.heap.size w w5) := bel_up' H4.out hb
  clear hb hw HL4
  go_wp2_with fail
  refine (HTr.out w5 H5.out).mono ?_
  rintro e w6 ⟨rfl, hb⟩
  have H6 : Hid (Below w.heap.size w w6) := bel_up' H5.out hb
  clear hb
  go_wp2_with fail
  refine (HPm.out w6 H6.out).mono ?_
  rintro e w' ⟨rfl, hw⟩
  have hw := hw.symm
  subst hw
  go_wp2_with fail
  refine (HPw.out w6 H6.out).mono ?_
  rintro e w7 ⟨vw, rfl, hv, hb⟩
  have H7 : Hid (Below w.heap.size w w7 ∧ KI vw lw w7) := ⟨bel_up' H6.out hb, hv⟩
  clear hb hv
  go_wp2_with fail
  refine (HEn.out w7 H7.out.1).mono ?_
  rintro e w8 ⟨ve, rfl, hv, hb⟩
  have H8 : Hid (Below w.heap.size w w8 ∧ KI vw lw w8 ∧ KI ve lw w8) := ⟨bel_up' H7.out.1 hb, (H7.out.2.below hb), hv⟩
  clear hb hv
  have HL8 : Hid (Calls Try.prog 10 #[.slice none 0 0, .int .i64 6, .slice none 0 0, .int .i64 6] w8 fun r w' => r = .returned (.bool true) ∧ ∃ n, w' = w8.drewN n) := list_gen (Or.inl ⟨by decide, none, 0, rfl⟩)
  go_wp2_with fail
  refine HL8.out.mono ?_
  rintro e w9 ⟨rfl, nn, hw⟩
  have hb : Below w8.heap.size w8 w9 := by rw [hw]; exact bel_drewN (Below.refl _ _) _
  have H9 : Hid (Below w.heap.size w w9 ∧ KI vw lw w9 ∧ KI ve lw w9) := ⟨bel_up' H8.out.1 hb, (H8.out.2.1.below hb), (H8.out.2.2.below hb)⟩
  clear hb hw HL8
  have HL9 : Hid (Calls Try.prog 10 #[ve, .int .i64 0, vw, .int .i64 0] w9 fun r w' => r = .returned (.bool true) ∧ ∃ n, w' = w9.drewN n) := list_gen (Or.inr ⟨rfl, lw, H9.out.2.2.1, H9.out.2.1.1⟩)
  go_wp2_with fail
  refine HL9.out.mono ?_
  rintro e w10 ⟨rfl, nn, hw⟩
  have hb : Below w9.heap.size w9 w10 := by rw [hw]; exact bel_drewN (Below.refl _ _) _
  have H10 : Hid (Below w.heap.size w w10) := bel_up' H9.out.1 hb
  clear hb hw HL9
  go_wp2_with fail
  refine (HPR.out w10 H10.out).mono ?_
  rintro e w11 ⟨rfl, hb⟩
  have H11 : Hid (Below w.heap.size w w11) := bel_up' H10.out hb
  clear hb
  go_wp2
  go_ret
  exact ⟨rfl, H11.out⟩

set_option maxHeartbeats 8000000 in
set_option maxRecDepth 100000 in
theorem psays_okloltX {m N : Nat} (hm : m ≤ 5) (hN : N = 2 ^ m)
    {k : Int}
    (hk : k < 0)
    {ao : Option Addr} {n c : Nat} {w : World} (hn : n ≤ 100)
    (hnN : n < N)
    {lc : List Int}
    (hLo : ∀ w1, Below w.heap.size w w1 → Calls Try.prog 6 #[.int .i64 (m : Nat)] w1 (TlL lc w1))
    (hCh : ∀ w1, Below w.heap.size w w1 → Calls Try.prog 7 #[.int .i64 (m : Nat)] w1 (TlZ lc w1))
    (hBe : ∀ w1, Below w.heap.size w w1 → Calls Try.prog 9 #[.int .i64 (m : Nat), .int .i64 k] w1 (TlE 6 w1))
    (hTr : ∀ w1, Below w.heap.size w w1 → Calls Try.prog 13 #[.int .i64 (m : Nat), .slice ao n c] w1 (TlE 6 w1))
    (hPm : ∀ w1, Below w.heap.size w w1 → Calls Try.prog 14 #[.int .i64 (m : Nat), .slice ao n c] w1 fun e w' => e = .returned (.int .i64 2) ∧ w' = w1)
    (hEn : ∀ w1, Below w.heap.size w w1 → Calls Try.prog 16 #[.int .i64 (m : Nat), .slice ao n c] w1 (TlE 2 w1))
    (hPR : ∀ w1, Below w.heap.size w w1 → Calls Try.prog 17 #[.int .i64 (m : Nat), .int .i64 k, .slice ao n c, .slice none 0 0, .int .i64 6] w1 fun e w' => e = .returned (.bool true) ∧ Below w1.heap.size w1 w') :
    Calls Try.prog 3 #[.int .i64 (m : Nat), .int .i64 k, .slice ao n c] w fun e w' => e = .returned (.bool true) ∧ Below w.heap.size w w' := by
  have HLo : Hid _ := hLo
  have HCh : Hid _ := hCh
  have HBe : Hid _ := hBe
  have HTr : Hid _ := hTr
  have HPm : Hid _ := hPm
  have HEn : Hid _ := hEn
  have HPR : Hid _ := hPR
  have hn1 : ¬ (n : Int) > 100 := by omega
  have hn2 : ¬ (100 : Int) < (n : Int) := by omega
  have hm1 : ¬ (m : Int) > 5 := by omega
  have hm2 : ¬ (5 : Int) < (m : Int) := by omega
  have hNb : N ≤ 32 := by rw [hN]; exact Nat.le_trans (Nat.pow_le_pow_right (by omega) hm) (by decide)
  have hNi : (2 : Int) ^ m = (N : Int) := by rw [hN]; simp
  have hNw : IntKind.i64.wrap (N : Int) = (N : Int) := wrap_to rfl (by omega)
  have hnb : ((n : Int) != (N : Int)) = true := bne_iff_ne.2 (by omega)
  clear hnN
  clear hN
  clear hLo hCh hBe hTr hPm hEn hPR
  go_enter Try.func3, Try.ntmps3
  go_wp2_with fail
  refine (HLo.out w (Below.refl _ _)).mono ?_
  rintro e w1 ⟨vl, rfl, hv, hb⟩
  have H1 : Hid (Below w.heap.size w w1 ∧ KI vl lc w1) := ⟨bel_up' (Below.refl _ _) hb, hv⟩
  clear hb hv
  go_wp2_with fail
  refine (HCh.out w1 H1.out.1).mono ?_
  rintro e w2 ⟨vc, rfl, hv, hb⟩
  have H2 : Hid (Below w.heap.size w w2 ∧ KI vl lc w2 ∧ KI vc lc w2) := ⟨bel_up' H1.out.1 hb, (H1.out.2.below hb), hv⟩
  clear hb hv
  go_wp2_with fail
  refine (HBe.out w2 H2.out.1).mono ?_
  rintro e w3 ⟨rfl, hb⟩
  have H3 : Hid (Below w.heap.size w w3 ∧ KI vl lc w3 ∧ KI vc lc w3) := ⟨bel_up' H2.out.1 hb, (H2.out.2.1.below hb), (H2.out.2.2.below hb)⟩
  clear hb
  have HL3 : Hid (Calls Try.prog 10 #[vc, .int .i64 0, vl, .int .i64 0] w3 fun r w' => r = .returned (.bool true) ∧ ∃ n, w' = w3.drewN n) := list_gen (Or.inr ⟨rfl, lc, H3.out.2.2.1, H3.out.2.1.1⟩)
  go_wp2_with fail
  refine HL3.out.mono ?_
  rintro e w4 ⟨rfl, nn, hw⟩
  have hb : Below w3.heap.size w3 w4 := by rw [hw]; exact bel_drewN (Below.refl _ _) _
  have H4 : Hid (Below w.heap.size w w4) := bel_up' H3.out.1 hb
  clear hb hw HL3
  have HL4 : Hid (Calls Try.prog 10 #[.slice none 0 0, .int .i64 6, .slice none 0 0, .int .i64 6] w4 fun r w' => r = .returned (.bool true) ∧ ∃ n, w' = w4.drewN n) := list_gen (Or.inl ⟨by decide, none, 0, rfl⟩)
  go_wp2_with fail
  refine HL4.out.mono ?_
  rintro e w5 ⟨rfl, nn, hw⟩
  have hb : Below w4.heap.size w4 w5 := by rw [hw]; exact bel_drewN (Below.refl _ _) _
  have H5 : Hid (Below w.heap.size w w5) := bel_up' H4.out hb
  clear hb hw HL4
  go_wp2_with fail
  refine (HTr.out w5 H5.out).mono ?_
  rintro e w6 ⟨rfl, hb⟩
  have H6 : Hid (Below w.heap.size w w6) := bel_up' H5.out hb
  clear hb
  go_wp2_with fail
  refine (HPm.out w6 H6.out).mono ?_
  rintro e w' ⟨rfl, hw⟩
  have hw := hw.symm
  subst hw
  go_wp2_with fail
  refine (HEn.out w6 H6.out).mono ?_
  rintro e w7 ⟨rfl, hb⟩
  have H7 : Hid (Below w.heap.size w w7) := bel_up' H6.out hb
  clear hb
  have HL7 : Hid (Calls Try.prog 10 #[.slice none 0 0, .int .i64 6, .slice none 0 0, .int .i64 6] w7 fun r w' => r = .returned (.bool true) ∧ ∃ n, w' = w7.drewN n) := list_gen (Or.inl ⟨by decide, none, 0, rfl⟩)
  go_wp2_with fail
  refine HL7.out.mono ?_
  rintro e w8 ⟨rfl, nn, hw⟩
  have hb : Below w7.heap.size w7 w8 := by rw [hw]; exact bel_drewN (Below.refl _ _) _
  have H8 : Hid (Below w.heap.size w w8) := bel_up' H7.out hb
  clear hb hw HL7
  have HL8 : Hid (Calls Try.prog 10 #[.slice none 0 0, .int .i64 2, .slice none 0 0, .int .i64 2] w8 fun r w' => r = .returned (.bool true) ∧ ∃ n, w' = w8.drewN n) := list_gen (Or.inl ⟨by decide, none, 0, rfl⟩)
  go_wp2_with fail
  refine HL8.out.mono ?_
  rintro e w9 ⟨rfl, nn, hw⟩
  have hb : Below w8.heap.size w8 w9 := by rw [hw]; exact bel_drewN (Below.refl _ _) _
  have H9 : Hid (Below w.heap.size w w9) := bel_up' H8.out hb
  clear hb hw HL8
  go_wp2_with fail
  refine (HPR.out w9 H9.out).mono ?_
  rintro e w10 ⟨rfl, hb⟩
  have H10 : Hid (Below w.heap.size w w10) := bel_up' H9.out hb
  clear hb
  go_wp2
  go_ret
  exact ⟨rfl, H10.out⟩

set_option maxHeartbeats 8000000 in
set_option maxRecDepth 100000 in
theorem psays_okloeqB {m N : Nat} (hm : m ≤ 5) (hN : N = 2 ^ m)
    {k : Int}
    (hk : k < 0)
    {ao : Option Addr} {n c : Nat} {w : World} (hn : n ≤ 100)
    (hnN : n = N)
    {lc lt lw : List Int}
    (hLo : ∀ w1, Below w.heap.size w w1 → Calls Try.prog 6 #[.int .i64 (m : Nat)] w1 (TlL lc w1))
    (hCh : ∀ w1, Below w.heap.size w w1 → Calls Try.prog 7 #[.int .i64 (m : Nat)] w1 (TlZ lc w1))
    (hBe : ∀ w1, Below w.heap.size w w1 → Calls Try.prog 9 #[.int .i64 (m : Nat), .int .i64 k] w1 (TlE 6 w1))
    (hBi : ∀ w1, Below w.heap.size w w1 → Calls Try.prog 11 #[.slice ao n c, .bool false] w1 fun e w' => e = .returned (.bool true) ∧ w' = w1)
    (hPo : ∀ w1, Below w.heap.size w w1 → Calls Try.prog 12 #[.slice ao n c] w1 (TlL lt w1))
    (hTr : ∀ w1, Below w.heap.size w w1 → Calls Try.prog 13 #[.int .i64 (m : Nat), .slice ao n c] w1 (TlZ lt w1))
    (hPm : ∀ w1, Below w.heap.size w w1 → Calls Try.prog 14 #[.int .i64 (m : Nat), .slice ao n c] w1 fun e w' => e = .returned (.int .i64 0) ∧ w' = w1)
    (hPw : ∀ w1, Below w.heap.size w w1 → Calls Try.prog 15 #[.int .i64 (m : Nat), .slice ao n c] w1 (TlL lw w1))
    (hEn : ∀ w1, Below w.heap.size w w1 → Calls Try.prog 16 #[.int .i64 (m : Nat), .slice ao n c] w1 (TlZ lw w1))
    (hPR : ∀ w1, Below w.heap.size w w1 → Calls Try.prog 17 #[.int .i64 (m : Nat), .int .i64 k, .slice ao n c, .slice none 0 0, .int .i64 6] w1 fun e w' => e = .returned (.bool true) ∧ Below w1.heap.size w1 w') :
    Calls Try.prog 3 #[.int .i64 (m : Nat), .int .i64 k, .slice ao n c] w fun e w' => e = .returned (.bool true) ∧ Below w.heap.size w w' := by
  have HLo : Hid _ := hLo
  have HCh : Hid _ := hCh
  have HBe : Hid _ := hBe
  have HBi : Hid _ := hBi
  have HPo : Hid _ := hPo
  have HTr : Hid _ := hTr
  have HPm : Hid _ := hPm
  have HPw : Hid _ := hPw
  have HEn : Hid _ := hEn
  have HPR : Hid _ := hPR
  have hn1 : ¬ (n : Int) > 100 := by omega
  have hn2 : ¬ (100 : Int) < (n : Int) := by omega
  have hm1 : ¬ (m : Int) > 5 := by omega
  have hm2 : ¬ (5 : Int) < (m : Int) := by omega
  have hNb : N ≤ 32 := by rw [hN]; exact Nat.le_trans (Nat.pow_le_pow_right (by omega) hm) (by decide)
  have hNi : (2 : Int) ^ m = (N : Int) := by rw [hN]; simp
  have hNw : IntKind.i64.wrap (N : Int) = (N : Int) := wrap_to rfl (by omega)
  subst hnN
  clear hN
  clear hLo hCh hBe hBi hPo hTr hPm hPw hEn hPR
  go_enter Try.func3, Try.ntmps3
  go_wp2_with fail
  refine (HLo.out w (Below.refl _ _)).mono ?_
  rintro e w1 ⟨vl, rfl, hv, hb⟩
  have H1 : Hid (Below w.heap.size w w1 ∧ KI vl lc w1) := ⟨bel_up' (Below.refl _ _) hb, hv⟩
  clear hb hv
  go_wp2_with fail
  refine (HCh.out w1 H1.out.1).mono ?_
  rintro e w2 ⟨vc, rfl, hv, hb⟩
  have H2 : Hid (Below w.heap.size w w2 ∧ KI vl lc w2 ∧ KI vc lc w2) := ⟨bel_up' H1.out.1 hb, (H1.out.2.below hb), hv⟩
  clear hb hv
  go_wp2_with fail
  refine (HBe.out w2 H2.out.1).mono ?_
  rintro e w3 ⟨rfl, hb⟩
  have H3 : Hid (Below w.heap.size w w3 ∧ KI vl lc w3 ∧ KI vc lc w3) := ⟨bel_up' H2.out.1 hb, (H2.out.2.1.below hb), (H2.out.2.2.below hb)⟩
  clear hb
  have HL3 : Hid (Calls Try.prog 10 #[vc, .int .i64 0, vl, .int .i64 0] w3 fun r w' => r = .returned (.bool true) ∧ ∃ n, w' = w3.drewN n) := list_gen (Or.inr ⟨rfl, lc, H3.out.2.2.1, H3.out.2.1.1⟩)
  go_wp2_with fail
  refine HL3.out.mono ?_
  rintro e w4 ⟨rfl, nn, hw⟩
  have hb : Below w3.heap.size w3 w4 := by rw [hw]; exact bel_drewN (Below.refl _ _) _
  have H4 : Hid (Below w.heap.size w w4) := bel_up' H3.out.1 hb
  clear hb hw HL3
  have HL4 : Hid (Calls Try.prog 10 #[.slice none 0 0, .int .i64 6, .slice none 0 0, .int .i64 6] w4 fun r w' => r = .returned (.bool true) ∧ ∃ n, w' = w4.drewN n) := list_gen (Or.inl ⟨by decide, none, 0, rfl⟩)
  go_wp2_with fail
  refine HL4.out.mono ?_
  rintro e w5 ⟨rfl, nn, hw⟩
  have hb : Below w4.heap.size w4 w5 := by rw [hw]; exact bel_drewN (Below.refl _ _) _
  have H5 : Hid (Below w.heap.size w w5) := bel_up' H4.out hb
  clear hb hw HL4
  go_wp2_with fail
  refine (HBi.out w5 H5.out).mono ?_
  rintro e w' ⟨rfl, hw⟩
  have hw := hw.symm
  subst hw
  go_wp2_with fail
  refine (HPo.out w5 H5.out).mono ?_
  rintro e w6 ⟨vp, rfl, hv, hb⟩
  have H6 : Hid (Below w.heap.size w w6 ∧ KI vp lt w6) := ⟨bel_up' H5.out hb, hv⟩
  clear hb hv
  go_wp2_with fail
  refine (HTr.out w6 H6.out.1).mono ?_
  rintro e w7 ⟨vt, rfl, hv, hb⟩
  have H7 : Hid (Below w.heap.size w w7 ∧ KI vp lt w7 ∧ KI vt lt w7) := ⟨bel_up' H6.out.1 hb, (H6.out.2.below hb), hv⟩
  clear hb hv
  go_wp2_with fail
  refine (HPm.out w7 H7.out.1).mono ?_
  rintro e w' ⟨rfl, hw⟩
  have hw := hw.symm
  subst hw
  go_wp2_with fail
  refine (HPw.out w7 H7.out.1).mono ?_
  rintro e w8 ⟨vw, rfl, hv, hb⟩
  have H8 : Hid (Below w.heap.size w w8 ∧ KI vp lt w8 ∧ KI vt lt w8 ∧ KI vw lw w8) := ⟨bel_up' H7.out.1 hb, (H7.out.2.1.below hb), (H7.out.2.2.below hb), hv⟩
  clear hb hv
  go_wp2_with fail
  refine (HEn.out w8 H8.out.1).mono ?_
  rintro e w9 ⟨ve, rfl, hv, hb⟩
  have H9 : Hid (Below w.heap.size w w9 ∧ KI vp lt w9 ∧ KI vt lt w9 ∧ KI vw lw w9 ∧ KI ve lw w9) := ⟨bel_up' H8.out.1 hb, (H8.out.2.1.below hb), (H8.out.2.2.1.below hb), (H8.out.2.2.2.below hb), hv⟩
  clear hb hv
  have HL9 : Hid (Calls Try.prog 10 #[vt, .int .i64 0, vp, .int .i64 0] w9 fun r w' => r = .returned (.bool true) ∧ ∃ n, w' = w9.drewN n) := list_gen (Or.inr ⟨rfl, lt, H9.out.2.2.1.1, H9.out.2.1.1⟩)
  go_wp2_with fail
  refine HL9.out.mono ?_
  rintro e w10 ⟨rfl, nn, hw⟩
  have hb : Below w9.heap.size w9 w10 := by rw [hw]; exact bel_drewN (Below.refl _ _) _
  have H10 : Hid (Below w.heap.size w w10 ∧ KI vw lw w10 ∧ KI ve lw w10) := ⟨bel_up' H9.out.1 hb, (H9.out.2.2.2.1.below hb), (H9.out.2.2.2.2.below hb)⟩
  clear hb hw HL9
  have HL10 : Hid (Calls Try.prog 10 #[ve, .int .i64 0, vw, .int .i64 0] w10 fun r w' => r = .returned (.bool true) ∧ ∃ n, w' = w10.drewN n) := list_gen (Or.inr ⟨rfl, lw, H10.out.2.2.1, H10.out.2.1.1⟩)
  go_wp2_with fail
  refine HL10.out.mono ?_
  rintro e w11 ⟨rfl, nn, hw⟩
  have hb : Below w10.heap.size w10 w11 := by rw [hw]; exact bel_drewN (Below.refl _ _) _
  have H11 : Hid (Below w.heap.size w w11) := bel_up' H10.out.1 hb
  clear hb hw HL10
  go_wp2_with fail
  refine (HPR.out w11 H11.out).mono ?_
  rintro e w12 ⟨rfl, hb⟩
  have H12 : Hid (Below w.heap.size w w12) := bel_up' H11.out hb
  clear hb
  go_wp2
  go_ret
  exact ⟨rfl, H12.out⟩

set_option maxHeartbeats 8000000 in
set_option maxRecDepth 100000 in
theorem psays_okloeqX {m N : Nat} (hm : m ≤ 5) (hN : N = 2 ^ m)
    {k : Int}
    (hk : k < 0)
    {ao : Option Addr} {n c : Nat} {w : World} (hn : n ≤ 100)
    (hnN : n = N)
    {lc : List Int}
    (hLo : ∀ w1, Below w.heap.size w w1 → Calls Try.prog 6 #[.int .i64 (m : Nat)] w1 (TlL lc w1))
    (hCh : ∀ w1, Below w.heap.size w w1 → Calls Try.prog 7 #[.int .i64 (m : Nat)] w1 (TlZ lc w1))
    (hBe : ∀ w1, Below w.heap.size w w1 → Calls Try.prog 9 #[.int .i64 (m : Nat), .int .i64 k] w1 (TlE 6 w1))
    (hBi : ∀ w1, Below w.heap.size w w1 → Calls Try.prog 11 #[.slice ao n c, .bool false] w1 fun e w' => e = .returned (.bool false) ∧ w' = w1)
    (hTr : ∀ w1, Below w.heap.size w w1 → Calls Try.prog 13 #[.int .i64 (m : Nat), .slice ao n c] w1 (TlE 2 w1))
    (hPm : ∀ w1, Below w.heap.size w w1 → Calls Try.prog 14 #[.int .i64 (m : Nat), .slice ao n c] w1 fun e w' => e = .returned (.int .i64 2) ∧ w' = w1)
    (hEn : ∀ w1, Below w.heap.size w w1 → Calls Try.prog 16 #[.int .i64 (m : Nat), .slice ao n c] w1 (TlE 2 w1))
    (hPR : ∀ w1, Below w.heap.size w w1 → Calls Try.prog 17 #[.int .i64 (m : Nat), .int .i64 k, .slice ao n c, .slice none 0 0, .int .i64 6] w1 fun e w' => e = .returned (.bool true) ∧ Below w1.heap.size w1 w') :
    Calls Try.prog 3 #[.int .i64 (m : Nat), .int .i64 k, .slice ao n c] w fun e w' => e = .returned (.bool true) ∧ Below w.heap.size w w' := by
  have HLo : Hid _ := hLo
  have HCh : Hid _ := hCh
  have HBe : Hid _ := hBe
  have HBi : Hid _ := hBi
  have HTr : Hid _ := hTr
  have HPm : Hid _ := hPm
  have HEn : Hid _ := hEn
  have HPR : Hid _ := hPR
  have hn1 : ¬ (n : Int) > 100 := by omega
  have hn2 : ¬ (100 : Int) < (n : Int) := by omega
  have hm1 : ¬ (m : Int) > 5 := by omega
  have hm2 : ¬ (5 : Int) < (m : Int) := by omega
  have hNb : N ≤ 32 := by rw [hN]; exact Nat.le_trans (Nat.pow_le_pow_right (by omega) hm) (by decide)
  have hNi : (2 : Int) ^ m = (N : Int) := by rw [hN]; simp
  have hNw : IntKind.i64.wrap (N : Int) = (N : Int) := wrap_to rfl (by omega)
  subst hnN
  clear hN
  clear hLo hCh hBe hBi hTr hPm hEn hPR
  go_enter Try.func3, Try.ntmps3
  go_wp2_with fail
  refine (HLo.out w (Below.refl _ _)).mono ?_
  rintro e w1 ⟨vl, rfl, hv, hb⟩
  have H1 : Hid (Below w.heap.size w w1 ∧ KI vl lc w1) := ⟨bel_up' (Below.refl _ _) hb, hv⟩
  clear hb hv
  go_wp2_with fail
  refine (HCh.out w1 H1.out.1).mono ?_
  rintro e w2 ⟨vc, rfl, hv, hb⟩
  have H2 : Hid (Below w.heap.size w w2 ∧ KI vl lc w2 ∧ KI vc lc w2) := ⟨bel_up' H1.out.1 hb, (H1.out.2.below hb), hv⟩
  clear hb hv
  go_wp2_with fail
  refine (HBe.out w2 H2.out.1).mono ?_
  rintro e w3 ⟨rfl, hb⟩
  have H3 : Hid (Below w.heap.size w w3 ∧ KI vl lc w3 ∧ KI vc lc w3) := ⟨bel_up' H2.out.1 hb, (H2.out.2.1.below hb), (H2.out.2.2.below hb)⟩
  clear hb
  have HL3 : Hid (Calls Try.prog 10 #[vc, .int .i64 0, vl, .int .i64 0] w3 fun r w' => r = .returned (.bool true) ∧ ∃ n, w' = w3.drewN n) := list_gen (Or.inr ⟨rfl, lc, H3.out.2.2.1, H3.out.2.1.1⟩)
  go_wp2_with fail
  refine HL3.out.mono ?_
  rintro e w4 ⟨rfl, nn, hw⟩
  have hb : Below w3.heap.size w3 w4 := by rw [hw]; exact bel_drewN (Below.refl _ _) _
  have H4 : Hid (Below w.heap.size w w4) := bel_up' H3.out.1 hb
  clear hb hw HL3
  have HL4 : Hid (Calls Try.prog 10 #[.slice none 0 0, .int .i64 6, .slice none 0 0, .int .i64 6] w4 fun r w' => r = .returned (.bool true) ∧ ∃ n, w' = w4.drewN n) := list_gen (Or.inl ⟨by decide, none, 0, rfl⟩)
  go_wp2_with fail
  refine HL4.out.mono ?_
  rintro e w5 ⟨rfl, nn, hw⟩
  have hb : Below w4.heap.size w4 w5 := by rw [hw]; exact bel_drewN (Below.refl _ _) _
  have H5 : Hid (Below w.heap.size w w5) := bel_up' H4.out hb
  clear hb hw HL4
  go_wp2_with fail
  refine (HBi.out w5 H5.out).mono ?_
  rintro e w' ⟨rfl, hw⟩
  have hw := hw.symm
  subst hw
  go_wp2_with fail
  refine (HTr.out w5 H5.out).mono ?_
  rintro e w6 ⟨rfl, hb⟩
  have H6 : Hid (Below w.heap.size w w6) := bel_up' H5.out hb
  clear hb
  go_wp2_with fail
  refine (HPm.out w6 H6.out).mono ?_
  rintro e w' ⟨rfl, hw⟩
  have hw := hw.symm
  subst hw
  go_wp2_with fail
  refine (HEn.out w6 H6.out).mono ?_
  rintro e w7 ⟨rfl, hb⟩
  have H7 : Hid (Below w.heap.size w w7) := bel_up' H6.out hb
  clear hb
  have HL7 : Hid (Calls Try.prog 10 #[.slice none 0 0, .int .i64 2, .slice none 0 0, .int .i64 2] w7 fun r w' => r = .returned (.bool true) ∧ ∃ n, w' = w7.drewN n) := list_gen (Or.inl ⟨by decide, none, 0, rfl⟩)
  go_wp2_with fail
  refine HL7.out.mono ?_
  rintro e w8 ⟨rfl, nn, hw⟩
  have hb : Below w7.heap.size w7 w8 := by rw [hw]; exact bel_drewN (Below.refl _ _) _
  have H8 : Hid (Below w.heap.size w w8) := bel_up' H7.out hb
  clear hb hw HL7
  have HL8 : Hid (Calls Try.prog 10 #[.slice none 0 0, .int .i64 2, .slice none 0 0, .int .i64 2] w8 fun r w' => r = .returned (.bool true) ∧ ∃ n, w' = w8.drewN n) := list_gen (Or.inl ⟨by decide, none, 0, rfl⟩)
  go_wp2_with fail
  refine HL8.out.mono ?_
  rintro e w9 ⟨rfl, nn, hw⟩
  have hb : Below w8.heap.size w8 w9 := by rw [hw]; exact bel_drewN (Below.refl _ _) _
  have H9 : Hid (Below w.heap.size w w9) := bel_up' H8.out hb
  clear hb hw HL8
  go_wp2_with fail
  refine (HPR.out w9 H9.out).mono ?_
  rintro e w10 ⟨rfl, hb⟩
  have H10 : Hid (Below w.heap.size w w10) := bel_up' H9.out hb
  clear hb
  go_wp2
  go_ret
  exact ⟨rfl, H10.out⟩

end Go.Proofs.Ytbfkacnpbelmlaa
