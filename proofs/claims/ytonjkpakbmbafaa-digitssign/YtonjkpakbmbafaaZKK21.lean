/- DigitsSign's walk. -/
import Derived.Test.YtonjkpakbmbafaaZKK19
import Derived.Test.YtonjkpakbmbafaaZKK20
namespace Go.Proofs.Ytonjkpakbmbafaa
open Go.RowKit Go.Maps

theorem sgM_ok {k : Int} {s : ByteArray} (h : sgM k s = 0) : ∃ kn : Nat, k = (kn : Int) ∧ 1 ≤ kn ∧ kn ≤ 5 ∧ sgm kn s.size ∧ dgs s s.size = true ∧ sgQ k s = sgS (sgn kn s.size (tdg s)) := by
  unfold sgM at h
  by_cases hk : k < 1 ∨ 5 < k
  · rw [if_pos hk] at h; cases h
  rw [if_neg hk] at h
  refine ⟨k.toNat, by omega, by omega, by omega, ?_⟩
  have hQ : sgQ k s = sgS (sgn k.toNat s.size (tdg s)) := by unfold sgQ sgR; rw [if_neg hk, if_pos h]
  unfold sgE at h
  by_cases h1 : s.size < sgl k.toNat ∨ sgh k.toNat < s.size
  · rw [if_pos h1] at h; cases h
  rw [if_neg h1] at h
  by_cases h2 : dgs s s.size = true
  · refine ⟨?_, h2, hQ⟩
    have h3 : 1 ≤ sgl k.toNat ∧ sgh k.toNat ≤ 64 ∧ (k.toNat = 2 → sgl k.toNat = 9 ∧ sgh k.toNat = 9) ∧ (k.toNat = 3 → sgl k.toNat = 12 ∧ sgh k.toNat = 12) := by
      unfold sgl sgh
      refine ⟨?_, ?_, fun e => ?_, fun e => ?_⟩
      · split
        · omega
        · split <;> omega
      · split
        · omega
        · split <;> omega
      · rw [if_pos e, if_pos e]; exact ⟨rfl, rfl⟩
      · rw [if_neg (by omega), if_pos e, if_neg (by omega), if_pos e]; exact ⟨rfl, rfl⟩
    exact ⟨by omega, by omega, fun e => by have := h3.2.2.1 e; omega, fun e => by have := h3.2.2.2 e; omega⟩
  · rw [if_neg h2] at h; cases h
theorem sgQ_no {k : Int} {s : ByteArray} (h : ¬ sgM k s = 0) : sgQ k s = ⟨#[]⟩ := by
  unfold sgM at h
  unfold sgQ
  by_cases hk : k < 1 ∨ 5 < k
  · rw [if_pos hk]
  rw [if_neg hk] at h ⊢
  unfold sgR
  rw [if_neg h]
theorem signOf_ok {k : Int} {s : ByteArray} (h : sgM k s = 0) (w : World) :
    Calls Try.prog 26 #[.int .i64 k, .string s] w fun e w' => e = .returned (.string (sgQ k s)) ∧ Below w.heap.size w w' := by
  obtain ⟨kn, hk, h1, h5, hm, hd, hq⟩ := sgM_ok h
  rw [hq, hk]
  exact signOf_any h1 h5 s w hm hd
theorem beq_swap (a b : List UInt8) : (a == b) = (b == a) := by
  rw [Bool.eq_iff_iff, beq_iff_eq, beq_iff_eq]; exact eq_comm
theorem below_two {a b c : World} (h : Below a.heap.size a b) (h2 : Below b.heap.size b c) : Below a.heap.size a c :=
  h.trans ⟨h2.os, h2.tape, h2.output, h2.size, fun k hk => h2.block k (by have := h.size; omega)⟩

set_option maxHeartbeats 8000000 in
set_option maxRecDepth 100000 in
/-- The second half of the law: from what Right tells on. -/
theorem digitsSign_go (k : Int) (hkw : (Lit.int .i64 k).wf = true) (s : ByteArray) (w : World) (hs : s.size ≤ 200) :
    Calls Try.prog 5 #[.int .i64 k, .string s] w fun e w' => e = .returned (.bool true) ∧ Below w.heap.size w w' := by
  have i200 : ¬ (200 : Int) < (s.size : Int) := by omega
  obtain ⟨E, hE⟩ : ∃ E, E = sgM k s := ⟨_, rfl⟩
  obtain ⟨Q, hQ⟩ : ∃ Q, Q = sgQ k s := ⟨_, rfl⟩
  have HM : Hid (∀ w, Calls Try.prog 25 #[.int .i64 k, .string s] w fun e w' => e = .returned (.int .i64 E) ∧ w' = w) := fun w => by rw [hE]; exact signMay_any k s w (by omega)
  have HS : Hid (∀ w, Calls Try.prog 27 #[.int .i64 k, .string s] w fun e w' => e = .returned (.tuple #[.string Q, .int .i64 E]) ∧ Below w.heap.size w w') := fun w => by rw [hE, hQ]; exact sign_any k hkw s w (by omega)
  have HO : Hid (E = 0 → ∀ w, Calls Try.prog 26 #[.int .i64 k, .string s] w fun e w' => e = .returned (.string Q) ∧ Below w.heap.size w w') := fun h w => by rw [hQ]; exact signOf_ok (by rw [← hE]; exact h) w
  have HKI : Hid (E = 0 → ¬ (k < 1 ∨ 5 < k)) := fun h hk => by rw [hE] at h; unfold sgM at h; rw [if_pos hk] at h; cases h
  have HN : Hid (¬ E = 0 → Q = ⟨#[]⟩) := fun h => by rw [hQ]; exact sgQ_no (by rw [← hE]; exact h)
  obtain ⟨n1, hn1⟩ : ∃ n1, n1 = s.size - 1 := ⟨_, rfl⟩
  obtain ⟨E2, hE2⟩ : ∃ E2, E2 = rgE k s := ⟨_, rfl⟩
  obtain ⟨B, hB⟩ : ∃ B, B = rgB k s := ⟨_, rfl⟩
  obtain ⟨M, hM⟩ : ∃ M, M = sgM k (tlF s) := ⟨_, rfl⟩
  obtain ⟨P, hP⟩ : ∃ P, P = sgQ k (tlF s) := ⟨_, rfl⟩
  have hsx : (tlF s).size ≤ 200 := by unfold tlF; rw [ByteArray.size_extract]; omega
  have HR : Hid (∀ w, Calls Try.prog 28 #[.int .i64 k, .string s] w fun e w' => e = .returned (.tuple #[.bool B, .int .i64 E2]) ∧ Below w.heap.size w w') := fun w => by rw [hB, hE2]; exact right_any k hkw s w (by omega)
  have HM2 : Hid (∀ w, Calls Try.prog 25 #[.int .i64 k, .string (s.extract 0 n1)] w fun e w' => e = .returned (.int .i64 M) ∧ w' = w) := fun w => by rw [hM, hn1]; exact signMay_any k _ w (by unfold tlF at hsx; omega)
  have HO2 : Hid (M = 0 → ∀ w, Calls Try.prog 26 #[.int .i64 k, .string (s.extract 0 n1)] w fun e w' => e = .returned (.string P) ∧ Below w.heap.size w w') := fun h w => by rw [hP, hn1]; exact signOf_ok (k := k) (s := tlF s) (by rw [← hM]; exact h) w
  have HE2 : Hid (E2 = if k < 1 ∨ 5 < k then 13 else if s.size < 2 then 6 else M) := by rw [hM]; exact hE2
  have HB : Hid (B = if E2 = 0 then (s.extract n1 s.size).toList == P.toList else false) := by show B = _; rw [hB, hE2, hP, hn1]; rfl
  have HN1 : Hid (n1 = s.size - 1) := hn1
  clear hE hQ hn1 hE2 hB hM hP hsx hkw
  go_enter Try.func5, Try.ntmps5
  -- the first half
  go_wp2_with fail
  refine (HM.out w).mono ?_
  rintro e w' ⟨rfl, hw⟩
  have hw := hw.symm
  subst hw
  by_cases hE0 : E = 0
  · have HO1 : Hid (∀ w, Calls Try.prog 26 #[.int .i64 k, .string s] w fun e w' => e = .returned (.string Q) ∧ Below w.heap.size w w') := HO.out hE0
    have HKo : Hid (¬ (k < 1 ∨ 5 < k)) := HKI.out hE0
    subst hE0
    go_wp2_with fail
    refine (HO1.out w).mono ?_
    rintro e w2 ⟨rfl, hb2⟩
    go_wp2_with fail
    refine (HS.out w2).mono ?_
    rintro e w3 ⟨rfl, hb3⟩
    have HBa : Hid (Below w.heap.size w w3) := below_two hb2 hb3
    clear hb2 hb3
    have hko := HKo.out
    by_cases hs2 : s.size < 2
    · have hk1 : ¬ k < 1 := by omega
      have hk5 : ¬ 5 < k := by omega
      have HV : Hid (E2 = 6) := by show E2 = 6; rw [HE2.out, if_neg hko, if_pos hs2]
      have HVB : Hid (B = false) := by show B = false; rw [HB.out, if_neg (by rw [HV.out]; decide)]
      have hE2 := HV.out
      have hBf := HVB.out
      subst hE2
      subst hBf
      have i2 : (s.size : Int) < 2 := by omega
      clear hko hs2
      go_wp2_with fail
      refine (HR.out _).mono ?_
      rintro e w5 ⟨rfl, hb5⟩
      have HBb : Hid (Below w.heap.size w w5) := below_two HBa.out hb5
      clear hb5
      go_wp2
      go_ret
      exact ⟨rfl, HBb.out⟩
    by_cases hM0 : M = 0
    · have hk1 : ¬ k < 1 := by omega
      have hk5 : ¬ 5 < k := by omega
      have i2 : ¬ (s.size : Int) < 2 := by omega
      have wn1 : IntKind.i64.wrap ((s.size : Int) - 1) = (n1 : Int) := wrpT (by have := HN1.out; omega) (by have := HN1.out; omega)
      have hn1b : (n1 : Int) ≤ (s.size : Int) := by have := HN1.out; omega
      have hn1c : n1 ≤ s.size := by have := HN1.out; omega
      have HV : Hid (E2 = 0) := by show E2 = 0; rw [HE2.out, if_neg hko, if_neg hs2, hM0]
      have HVB : Hid ((P.toList == (s.extract n1 s.size).toList) = B) := by show _ = B; rw [HB.out, if_pos HV.out]; exact beq_swap _ _
      have HO3 : Hid (∀ w, Calls Try.prog 26 #[.int .i64 k, .string (s.extract 0 n1)] w fun e w' => e = .returned (.string P) ∧ Below w.heap.size w w') := HO2.out hM0
      have hE2 := HV.out
      subst hE2
      subst hM0
      clear hko hs2
      go_wp2_with fail
      refine (HM2.out _).mono ?_
      rintro e w' ⟨rfl, hw⟩
      have hw := hw.symm
      subst hw
      go_wp2_with fail
      refine (HR.out _).mono ?_
      rintro e w5 ⟨rfl, hb5⟩
      have HBb : Hid (Below w.heap.size w w5) := below_two HBa.out hb5
      clear hb5
      go_wp2_with fail
      refine (HO3.out _).mono ?_
      rintro e w6 ⟨rfl, hb6⟩
      have HBc : Hid (Below w.heap.size w w6) := below_two HBb.out hb6
      have hbb := HVB.out
      clear hb6
      go_wp2
      go_ret
      exact ⟨rfl, HBc.out⟩
    · have hk1 : ¬ k < 1 := by omega
      have hk5 : ¬ 5 < k := by omega
      have i2 : ¬ (s.size : Int) < 2 := by omega
      have wn1 : IntKind.i64.wrap ((s.size : Int) - 1) = (n1 : Int) := wrpT (by have := HN1.out; omega) (by have := HN1.out; omega)
      have hn1b : (n1 : Int) ≤ (s.size : Int) := by have := HN1.out; omega
      have hn1c : n1 ≤ s.size := by have := HN1.out; omega
      have HV : Hid (E2 = M) := by show E2 = M; rw [HE2.out, if_neg hko, if_neg hs2]
      have HVB : Hid (B = false) := by show B = false; rw [HB.out, if_neg (by rw [HV.out]; exact hM0)]
      have hE2 := HV.out
      have hBf := HVB.out
      subst hE2
      subst hBf
      have hMz : (E2 == 0) = false := by rw [beq_eq_false_iff_ne]; exact hM0
      clear hko hs2
      go_wp2_with fail
      refine (HM2.out _).mono ?_
      rintro e w' ⟨rfl, hw⟩
      have hw := hw.symm
      subst hw
      go_wp2_with fail
      refine (HR.out _).mono ?_
      rintro e w5 ⟨rfl, hb5⟩
      have HBb : Hid (Below w.heap.size w w5) := below_two HBa.out hb5
      clear hb5
      go_wp2
      go_ret
      exact ⟨rfl, HBb.out⟩
  · have hQe := HN.out hE0
    subst hQe
    have hEz : (E == 0) = false := by rw [beq_eq_false_iff_ne]; exact hE0
    go_wp2_with fail
    refine (HS.out w).mono ?_
    rintro e w3 ⟨rfl, hb3⟩
    have HBa : Hid (Below w.heap.size w w3) := hb3
    clear hb3
    by_cases hko : k < 1 ∨ 5 < k
    · have HV : Hid (E2 = 13) := by show E2 = 13; rw [HE2.out, if_pos hko]
      have HVB : Hid (B = false) := by show B = false; rw [HB.out, if_neg (by rw [HV.out]; decide)]
      have hE2 := HV.out
      have hBf := HVB.out
      subst hE2
      subst hBf
      by_cases hk1 : k < 1
      · have hkk : k < 1 := hk1
        go_wp2_with fail
        refine (HR.out _).mono ?_
        rintro e w5 ⟨rfl, hb5⟩
        have HBb : Hid (Below w.heap.size w w5) := below_two HBa.out hb5
        clear hb5
        go_wp2
        go_ret
        exact ⟨rfl, HBb.out⟩
      · have hkk : 5 < k := by omega
        go_wp2_with fail
        refine (HR.out _).mono ?_
        rintro e w5 ⟨rfl, hb5⟩
        have HBb : Hid (Below w.heap.size w w5) := below_two HBa.out hb5
        clear hb5
        go_wp2
        go_ret
        exact ⟨rfl, HBb.out⟩
    by_cases hs2 : s.size < 2
    · have hk1 : ¬ k < 1 := by omega
      have hk5 : ¬ 5 < k := by omega
      have HV : Hid (E2 = 6) := by show E2 = 6; rw [HE2.out, if_neg hko, if_pos hs2]
      have HVB : Hid (B = false) := by show B = false; rw [HB.out, if_neg (by rw [HV.out]; decide)]
      have hE2 := HV.out
      have hBf := HVB.out
      subst hE2
      subst hBf
      have i2 : (s.size : Int) < 2 := by omega
      clear hko hs2
      go_wp2_with fail
      refine (HR.out _).mono ?_
      rintro e w5 ⟨rfl, hb5⟩
      have HBb : Hid (Below w.heap.size w w5) := below_two HBa.out hb5
      clear hb5
      go_wp2
      go_ret
      exact ⟨rfl, HBb.out⟩
    by_cases hM0 : M = 0
    · have hk1 : ¬ k < 1 := by omega
      have hk5 : ¬ 5 < k := by omega
      have i2 : ¬ (s.size : Int) < 2 := by omega
      have wn1 : IntKind.i64.wrap ((s.size : Int) - 1) = (n1 : Int) := wrpT (by have := HN1.out; omega) (by have := HN1.out; omega)
      have hn1b : (n1 : Int) ≤ (s.size : Int) := by have := HN1.out; omega
      have hn1c : n1 ≤ s.size := by have := HN1.out; omega
      have HV : Hid (E2 = 0) := by show E2 = 0; rw [HE2.out, if_neg hko, if_neg hs2, hM0]
      have HVB : Hid ((P.toList == (s.extract n1 s.size).toList) = B) := by show _ = B; rw [HB.out, if_pos HV.out]; exact beq_swap _ _
      have HO3 : Hid (∀ w, Calls Try.prog 26 #[.int .i64 k, .string (s.extract 0 n1)] w fun e w' => e = .returned (.string P) ∧ Below w.heap.size w w') := HO2.out hM0
      have hE2 := HV.out
      subst hE2
      subst hM0
      clear hko hs2
      go_wp2_with fail
      refine (HM2.out _).mono ?_
      rintro e w' ⟨rfl, hw⟩
      have hw := hw.symm
      subst hw
      go_wp2_with fail
      refine (HR.out _).mono ?_
      rintro e w5 ⟨rfl, hb5⟩
      have HBb : Hid (Below w.heap.size w w5) := below_two HBa.out hb5
      clear hb5
      go_wp2_with fail
      refine (HO3.out _).mono ?_
      rintro e w6 ⟨rfl, hb6⟩
      have HBc : Hid (Below w.heap.size w w6) := below_two HBb.out hb6
      have hbb := HVB.out
      clear hb6
      go_wp2
      go_ret
      exact ⟨rfl, HBc.out⟩
    · have hk1 : ¬ k < 1 := by omega
      have hk5 : ¬ 5 < k := by omega
      have i2 : ¬ (s.size : Int) < 2 := by omega
      have wn1 : IntKind.i64.wrap ((s.size : Int) - 1) = (n1 : Int) := wrpT (by have := HN1.out; omega) (by have := HN1.out; omega)
      have hn1b : (n1 : Int) ≤ (s.size : Int) := by have := HN1.out; omega
      have hn1c : n1 ≤ s.size := by have := HN1.out; omega
      have HV : Hid (E2 = M) := by show E2 = M; rw [HE2.out, if_neg hko, if_neg hs2]
      have HVB : Hid (B = false) := by show B = false; rw [HB.out, if_neg (by rw [HV.out]; exact hM0)]
      have hE2 := HV.out
      have hBf := HVB.out
      subst hE2
      subst hBf
      have hMz : (E2 == 0) = false := by rw [beq_eq_false_iff_ne]; exact hM0
      clear hko hs2
      go_wp2_with fail
      refine (HM2.out _).mono ?_
      rintro e w' ⟨rfl, hw⟩
      have hw := hw.symm
      subst hw
      go_wp2_with fail
      refine (HR.out _).mono ?_
      rintro e w5 ⟨rfl, hb5⟩
      have HBb : Hid (Below w.heap.size w w5) := below_two HBa.out hb5
      clear hb5
      go_wp2
      go_ret
      exact ⟨rfl, HBb.out⟩

set_option maxHeartbeats 1000000 in
theorem digitsSign_walk (k : Int) (hkw : (Lit.int .i64 k).wf = true) (s : ByteArray) (w : World) :
    Calls Try.prog 5 #[.int .i64 k, .string s] w fun e w' => e = .returned (.bool true) ∧ Below w.heap.size w w' := by
  by_cases hs : s.size ≤ 200
  · exact digitsSign_go k hkw s w hs
  · have i200 : (200 : Int) < (s.size : Int) := by omega
    clear hs
    go_enter Try.func5, Try.ntmps5
    go_wp2
    go_ret
    exact ⟨rfl, Below.refl _ _⟩
end Go.Proofs.Ytonjkpakbmbafaa
