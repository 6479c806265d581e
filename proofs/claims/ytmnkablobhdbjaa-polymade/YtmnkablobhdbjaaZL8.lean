/- PolySays: where an argument may not be. -/
import Derived.Test.YtmnkablobhdbjaaZL6
namespace Go.Proofs.Ytmnkablobhdbjaa
open Go.RowKit Go.Sort

set_option maxHeartbeats 4000000 in
set_option maxRecDepth 100000 in
theorem polySays_err (q e1 e2 : Int) (he : e2 ≠ 0) {ao bo : Option Addr} {n m ca cb : Nat} (x : Int) {w : World} (hnm : n + m ≤ 300) (hcase : e1 = 0 ∨ e1 = e2)
    (hMa : ∀ w1, Below w.heap.size w w1 → Calls Try.prog 46 #[.int .i64 q, .slice ao n ca] w1 fun r w' => r = .returned (.int .i64 e1) ∧ Below w1.heap.size w1 w')
    (hCk : ∀ w1, Below w.heap.size w w1 → Calls Try.prog 47 #[.int .i64 q, .slice ao n ca] w1 fun r w' => r = .returned (.int .i64 e1) ∧ Below w1.heap.size w1 w')
    (hFi : ∀ w1, Below w.heap.size w w1 → Calls Try.prog 10 #[.int .i64 q] w1 fun r w' => ∃ x0 x1 x2 x3 x4 x5 x6 e0, r = .returned (.tuple #[.agg #[.int .i64 x0, .int .i64 x1, .int .i64 x2, .int .i64 x3, .slice x4 x5 x6], .int .i64 e0]) ∧ Below w1.heap.size w1 w')
    (hAd : ∀ w1, Below w.heap.size w w1 → Calls Try.prog 53 #[.int .i64 q, .slice ao n ca, .slice bo m cb] w1 fun r w' => r = .returned (.tuple #[.slice none 0 0, .int .i64 e2]) ∧ Below w1.heap.size w1 w')
    (hMu : ∀ w1, Below w.heap.size w w1 → Calls Try.prog 54 #[.int .i64 q, .slice ao n ca, .slice bo m cb] w1 fun r w' => r = .returned (.tuple #[.slice none 0 0, .int .i64 e2]) ∧ Below w1.heap.size w1 w')
    (hGc : ∀ w1, Below w.heap.size w w1 → Calls Try.prog 55 #[.int .i64 q, .slice ao n ca, .slice bo m cb] w1 fun r w' => r = .returned (.tuple #[.slice none 0 0, .int .i64 e2]) ∧ Below w1.heap.size w1 w')
    (hDi : ∀ w1, Below w.heap.size w w1 → Calls Try.prog 56 #[.int .i64 q, .slice ao n ca, .slice bo m cb] w1 fun r w' => r = .returned (.tuple #[.slice none 0 0, .slice none 0 0, .int .i64 e2]) ∧ Below w1.heap.size w1 w')
    (hAt : ∀ w1, Below w.heap.size w w1 → Calls Try.prog 57 #[.int .i64 q, .slice ao n ca, .int .i64 x, .int .i64 e1] w1 fun r w' => r = .returned (.bool true) ∧ Below w1.heap.size w1 w')
    (hRo : ∀ w1, Below w.heap.size w w1 → Calls Try.prog 58 #[.int .i64 q, .slice ao n ca, .int .i64 e1] w1 fun r w' => r = .returned (.bool true) ∧ Below w1.heap.size w1 w')
    (hTh : ∀ w1, Below w.heap.size w w1 → Calls Try.prog 59 #[.int .i64 q, .slice ao n ca, .slice bo m cb, .int .i64 e2] w1 fun r w' => r = .returned (.bool true) ∧ Below w1.heap.size w1 w')
    (hMb : e1 = 0 → ∀ w1, Below w.heap.size w w1 → Calls Try.prog 46 #[.int .i64 q, .slice bo m cb] w1 fun r w' => r = .returned (.int .i64 e2) ∧ Below w1.heap.size w1 w') :
    Calls Try.prog 6 #[.int .i64 q, .slice ao n ca, .slice bo m cb, .int .i64 x] w fun r w' => r = .returned (.bool true) ∧ Below w.heap.size w w' := by
  have HMa : Hid (∀ w1, Below w.heap.size w w1 → Calls Try.prog 46 #[.int .i64 q, .slice ao n ca] w1 fun r w' => r = .returned (.int .i64 e1) ∧ Below w1.heap.size w1 w') := hMa
  have HCk : Hid (∀ w1, Below w.heap.size w w1 → Calls Try.prog 47 #[.int .i64 q, .slice ao n ca] w1 fun r w' => r = .returned (.int .i64 e1) ∧ Below w1.heap.size w1 w') := hCk
  have HFi : Hid (∀ w1, Below w.heap.size w w1 → Calls Try.prog 10 #[.int .i64 q] w1 fun r w' => ∃ x0 x1 x2 x3 x4 x5 x6 e0, r = .returned (.tuple #[.agg #[.int .i64 x0, .int .i64 x1, .int .i64 x2, .int .i64 x3, .slice x4 x5 x6], .int .i64 e0]) ∧ Below w1.heap.size w1 w') := hFi
  have HAd : Hid (∀ w1, Below w.heap.size w w1 → Calls Try.prog 53 #[.int .i64 q, .slice ao n ca, .slice bo m cb] w1 fun r w' => r = .returned (.tuple #[.slice none 0 0, .int .i64 e2]) ∧ Below w1.heap.size w1 w') := hAd
  have HMu : Hid (∀ w1, Below w.heap.size w w1 → Calls Try.prog 54 #[.int .i64 q, .slice ao n ca, .slice bo m cb] w1 fun r w' => r = .returned (.tuple #[.slice none 0 0, .int .i64 e2]) ∧ Below w1.heap.size w1 w') := hMu
  have HGc : Hid (∀ w1, Below w.heap.size w w1 → Calls Try.prog 55 #[.int .i64 q, .slice ao n ca, .slice bo m cb] w1 fun r w' => r = .returned (.tuple #[.slice none 0 0, .int .i64 e2]) ∧ Below w1.heap.size w1 w') := hGc
  have HDi : Hid (∀ w1, Below w.heap.size w w1 → Calls Try.prog 56 #[.int .i64 q, .slice ao n ca, .slice bo m cb] w1 fun r w' => r = .returned (.tuple #[.slice none 0 0, .slice none 0 0, .int .i64 e2]) ∧ Below w1.heap.size w1 w') := hDi
  have HAt : Hid (∀ w1, Below w.heap.size w w1 → Calls Try.prog 57 #[.int .i64 q, .slice ao n ca, .int .i64 x, .int .i64 e1] w1 fun r w' => r = .returned (.bool true) ∧ Below w1.heap.size w1 w') := hAt
  have HRo : Hid (∀ w1, Below w.heap.size w w1 → Calls Try.prog 58 #[.int .i64 q, .slice ao n ca, .int .i64 e1] w1 fun r w' => r = .returned (.bool true) ∧ Below w1.heap.size w1 w') := hRo
  have HTh : Hid (∀ w1, Below w.heap.size w w1 → Calls Try.prog 59 #[.int .i64 q, .slice ao n ca, .slice bo m cb, .int .i64 e2] w1 fun r w' => r = .returned (.bool true) ∧ Below w1.heap.size w1 w') := hTh
  have HMb : Hid (e1 = 0 → ∀ w1, Below w.heap.size w w1 → Calls Try.prog 46 #[.int .i64 q, .slice bo m cb] w1 fun r w' => r = .returned (.int .i64 e2) ∧ Below w1.heap.size w1 w') := hMb
  clear hMb hMa hCk hFi hAd hMu hGc hDi hAt hRo hTh
  have hz2 : (e2 == 0) = false := beq_eq_false_iff_ne.2 he
  have hz1 : (e1 != e1) = false := by simp
  have HB : Hid (Below w.heap.size w w) := Below.refl _ _
  go_enter Try.func6, Try.ntmps6
  go_wp2_with fail
  refine (HMa.out _ HB.out).mono ?_
  rintro r w1 ⟨rfl, hb'⟩
  replace HB : Hid (Below w.heap.size w w1) := bel_up HB.out hb'
  clear hb'
  by_cases h1 : e1 = 0
  · subst h1
    have HMb2 : Hid (∀ w1, Below w.heap.size w w1 → Calls Try.prog 46 #[.int .i64 q, .slice bo m cb] w1 fun r w' => r = .returned (.int .i64 e2) ∧ Below w1.heap.size w1 w') := HMb.out rfl
    clear HMb
    go_wp2_with fail
    refine (HMb2.out _ HB.out).mono ?_
    rintro r w2 ⟨rfl, hb'⟩
    replace HB : Hid (Below w.heap.size w w2) := bel_up HB.out hb'
    clear hb'
    go_wp2_with fail
    refine (HCk.out _ HB.out).mono ?_
    rintro r w3 ⟨rfl, hb'⟩
    replace HB : Hid (Below w.heap.size w w3) := bel_up HB.out hb'
    clear hb'
    go_wp2_with fail
    refine (HFi.out _ HB.out).mono ?_
    rintro r w4 ⟨x0, x1, x2, x3, x4, x5, x6, e0, rfl, hb'⟩
    replace HB : Hid (Below w.heap.size w w4) := bel_up HB.out hb'
    clear hb'
    replace HB : Hid (Below w.heap.size w (w4.alloc (.cells #[.int .i64 x0, .int .i64 x1, .int .i64 x2, .int .i64 x3, .slice x4 x5 x6] 28))) := HB.out.alloc HB.out.size _
    go_wp2_with fail
    refine (HAd.out _ HB.out).mono ?_
    rintro r w5 ⟨rfl, hb'⟩
    replace HB : Hid (Below w.heap.size w w5) := bel_up HB.out hb'
    clear hb'
    go_wp2_with fail
    refine (HMu.out _ HB.out).mono ?_
    rintro r w6 ⟨rfl, hb'⟩
    replace HB : Hid (Below w.heap.size w w6) := bel_up HB.out hb'
    clear hb'
    go_wp2_with fail
    refine (HGc.out _ HB.out).mono ?_
    rintro r w7 ⟨rfl, hb'⟩
    replace HB : Hid (Below w.heap.size w w7) := bel_up HB.out hb'
    clear hb'
    go_wp2_with (go_at_call 45; refine (list_err2 e2 he _ _ _ _).mono ?_; rintro r wd ⟨rfl, hw⟩; have hw := hw.symm; subst hw)
    refine (HDi.out _ HB.out).mono ?_
    rintro r w8 ⟨rfl, hb'⟩
    replace HB : Hid (Below w.heap.size w w8) := bel_up HB.out hb'
    clear hb'
    go_wp2_with (go_at_call 45; refine (list_err2 e2 he _ _ _ _).mono ?_; rintro r wd ⟨rfl, hw⟩; have hw := hw.symm; subst hw)
    refine (HAt.out _ HB.out).mono ?_
    rintro r w9 ⟨rfl, hb'⟩
    replace HB : Hid (Below w.heap.size w w9) := bel_up HB.out hb'
    clear hb'
    go_wp2_with fail
    refine (HRo.out _ HB.out).mono ?_
    rintro r w10 ⟨rfl, hb'⟩
    replace HB : Hid (Below w.heap.size w w10) := bel_up HB.out hb'
    clear hb'
    go_wp2_with fail
    refine (HTh.out _ HB.out).mono ?_
    rintro r w11 ⟨rfl, hb'⟩
    replace HB : Hid (Below w.heap.size w w11) := bel_up HB.out hb'
    clear hb'
    go_wp2
    go_ret
    exact ⟨by first | rfl | simp, HB.out⟩
  · have h12 : e2 = e1 := by rcases hcase with h | h; exact absurd h h1; exact h.symm
    subst h12
    go_wp2_with fail
    refine (HCk.out _ HB.out).mono ?_
    rintro r w3 ⟨rfl, hb'⟩
    replace HB : Hid (Below w.heap.size w w3) := bel_up HB.out hb'
    clear hb'
    go_wp2_with fail
    refine (HFi.out _ HB.out).mono ?_
    rintro r w4 ⟨x0, x1, x2, x3, x4, x5, x6, e0, rfl, hb'⟩
    replace HB : Hid (Below w.heap.size w w4) := bel_up HB.out hb'
    clear hb'
    replace HB : Hid (Below w.heap.size w (w4.alloc (.cells #[.int .i64 x0, .int .i64 x1, .int .i64 x2, .int .i64 x3, .slice x4 x5 x6] 28))) := HB.out.alloc HB.out.size _
    go_wp2_with fail
    refine (HAd.out _ HB.out).mono ?_
    rintro r w5 ⟨rfl, hb'⟩
    replace HB : Hid (Below w.heap.size w w5) := bel_up HB.out hb'
    clear hb'
    go_wp2_with fail
    refine (HMu.out _ HB.out).mono ?_
    rintro r w6 ⟨rfl, hb'⟩
    replace HB : Hid (Below w.heap.size w w6) := bel_up HB.out hb'
    clear hb'
    go_wp2_with fail
    refine (HGc.out _ HB.out).mono ?_
    rintro r w7 ⟨rfl, hb'⟩
    replace HB : Hid (Below w.heap.size w w7) := bel_up HB.out hb'
    clear hb'
    go_wp2_with (go_at_call 45; refine (list_err2 e2 he _ _ _ _).mono ?_; rintro r wd ⟨rfl, hw⟩; have hw := hw.symm; subst hw)
    refine (HDi.out _ HB.out).mono ?_
    rintro r w8 ⟨rfl, hb'⟩
    replace HB : Hid (Below w.heap.size w w8) := bel_up HB.out hb'
    clear hb'
    go_wp2_with (go_at_call 45; refine (list_err2 e2 he _ _ _ _).mono ?_; rintro r wd ⟨rfl, hw⟩; have hw := hw.symm; subst hw)
    refine (HAt.out _ HB.out).mono ?_
    rintro r w9 ⟨rfl, hb'⟩
    replace HB : Hid (Below w.heap.size w w9) := bel_up HB.out hb'
    clear hb'
    go_wp2_with fail
    refine (HRo.out _ HB.out).mono ?_
    rintro r w10 ⟨rfl, hb'⟩
    replace HB : Hid (Below w.heap.size w w10) := bel_up HB.out hb'
    clear hb'
    go_wp2_with fail
    refine (HTh.out _ HB.out).mono ?_
    rintro r w11 ⟨rfl, hb'⟩
    replace HB : Hid (Below w.heap.size w w11) := bel_up HB.out hb'
    clear hb'
    go_wp2
    go_ret
    exact ⟨by first | rfl | simp, HB.out⟩
end Go.Proofs.Ytmnkablobhdbjaa
