/- MatrixSays: one matrix (matrixOne), where it may not be, and where it has no row. -/
import Derived.Test.YtbpeahhhkcljeaaZL11
namespace Go.Proofs.Ytbpeahhhkcljeaa
open Go.RowKit Go.Sort

set_option maxHeartbeats 8000000 in
set_option maxRecDepth 100000 in
theorem matrixOne_err (q e : Int) (he : e ≠ 0) {ao bo : Option Addr} {m mb ca cb : Nat} {w : World}
    (hFi : ∀ w1, Below w.heap.size w w1 → Calls Try.prog 11 #[.int .i64 q] w1 fun r w' => ∃ x0 x1 x2 x3 x4 x5 x6 e0, r = .returned (.tuple #[.agg #[.int .i64 x0, .int .i64 x1, .int .i64 x2, .int .i64 x3, .slice x4 x5 x6], .int .i64 e0]) ∧ Below w1.heap.size w1 w')
    (hRe : ∀ w1, Below w.heap.size w w1 → Calls Try.prog 39 #[.int .i64 q, .slice ao m ca] w1 fun r w' => r = .returned (.tuple #[.slice none 0 0, .slice none 0 0, .int .i64 e]) ∧ Below w1.heap.size w1 w')
    (hRa : ∀ w1, Below w.heap.size w w1 → Calls Try.prog 37 #[.int .i64 q, .slice ao m ca] w1 fun r w' => r = .returned (.tuple #[.int .i64 0, .int .i64 e]) ∧ Below w1.heap.size w1 w')
    (hNu : ∀ w1, Below w.heap.size w w1 → Calls Try.prog 38 #[.int .i64 q, .slice ao m ca] w1 fun r w' => r = .returned (.tuple #[.slice none 0 0, .int .i64 e]) ∧ Below w1.heap.size w1 w')
    (hSo : ∀ w1, Below w.heap.size w w1 → Calls Try.prog 63 #[.int .i64 q, .slice ao m ca, .slice bo mb cb] w1 fun r w' => r = .returned (.tuple #[.slice none 0 0, .bool false, .int .i64 e]) ∧ Below w1.heap.size w1 w')
    (hIn : ∀ w1, Below w.heap.size w w1 → Calls Try.prog 99 #[.int .i64 q, .slice ao m ca] w1 fun r w' => r = .returned (.tuple #[.slice none 0 0, .int .i64 e]) ∧ Below w1.heap.size w1 w') :
    Calls Try.prog 16 #[.int .i64 q, .slice ao m ca, .slice bo mb cb, .int .i64 e] w fun r w' => r = .returned (.bool true) ∧ Below w.heap.size w w' := by
  have HFi : Hid (∀ w1, Below w.heap.size w w1 → Calls Try.prog 11 #[.int .i64 q] w1 fun r w' => ∃ x0 x1 x2 x3 x4 x5 x6 e0, r = .returned (.tuple #[.agg #[.int .i64 x0, .int .i64 x1, .int .i64 x2, .int .i64 x3, .slice x4 x5 x6], .int .i64 e0]) ∧ Below w1.heap.size w1 w') := hFi
  have HRe : Hid (∀ w1, Below w.heap.size w w1 → Calls Try.prog 39 #[.int .i64 q, .slice ao m ca] w1 fun r w' => r = .returned (.tuple #[.slice none 0 0, .slice none 0 0, .int .i64 e]) ∧ Below w1.heap.size w1 w') := hRe
  have HRa : Hid (∀ w1, Below w.heap.size w w1 → Calls Try.prog 37 #[.int .i64 q, .slice ao m ca] w1 fun r w' => r = .returned (.tuple #[.int .i64 0, .int .i64 e]) ∧ Below w1.heap.size w1 w') := hRa
  have HNu : Hid (∀ w1, Below w.heap.size w w1 → Calls Try.prog 38 #[.int .i64 q, .slice ao m ca] w1 fun r w' => r = .returned (.tuple #[.slice none 0 0, .int .i64 e]) ∧ Below w1.heap.size w1 w') := hNu
  have HSo : Hid (∀ w1, Below w.heap.size w w1 → Calls Try.prog 63 #[.int .i64 q, .slice ao m ca, .slice bo mb cb] w1 fun r w' => r = .returned (.tuple #[.slice none 0 0, .bool false, .int .i64 e]) ∧ Below w1.heap.size w1 w') := hSo
  have HIn : Hid (∀ w1, Below w.heap.size w w1 → Calls Try.prog 99 #[.int .i64 q, .slice ao m ca] w1 fun r w' => r = .returned (.tuple #[.slice none 0 0, .int .i64 e]) ∧ Below w1.heap.size w1 w') := hIn
  have HE : Hid (e ≠ 0) := he
  have hz1 : (e == 0) = false := by rw [beq_eq_false_iff_ne]; exact he
  have hz2 : (e != e) = false := by simp
  clear hFi hRe hRa hNu hSo hIn he
  go_enter Try.func16, Try.ntmps16
  go_wp2_with fail
  refine (HFi.out _ (Below.refl _ _)).mono ?_
  rintro r w1 ⟨x0, x1, x2, x3, x4, x5, x6, e0, rfl, hb'⟩
  have HB : Hid (Below w.heap.size w (w1.alloc (.cells #[.int .i64 x0, .int .i64 x1, .int .i64 x2, .int .i64 x3, .slice x4 x5 x6] 28)) ∧ (w1.alloc (.cells #[.int .i64 x0, .int .i64 x1, .int .i64 x2, .int .i64 x3, .slice x4 x5 x6] 28)).heap.size = w1.heap.size + 1) := ⟨(bel_up' (Below.refl _ _) hb').alloc hb'.size _, by simp⟩
  have k0 : (w1.alloc (.cells #[.int .i64 x0, .int .i64 x1, .int .i64 x2, .int .i64 x3, .slice x4 x5 x6] 28)).cell? ⟨w1.heap.size, 0, none⟩ = some (.int .i64 x0) := by simp
  have HX : Hid (∀ wx, Below (w1.alloc (.cells #[.int .i64 x0, .int .i64 x1, .int .i64 x2, .int .i64 x3, .slice x4 x5 x6] 28)).heap.size (w1.alloc (.cells #[.int .i64 x0, .int .i64 x1, .int .i64 x2, .int .i64 x3, .slice x4 x5 x6] 28)) wx → wx.cell? ⟨w1.heap.size, 0, none⟩ = some (.int .i64 x0) ∧ wx.cell? ⟨w1.heap.size, 1, none⟩ = some (.int .i64 x1) ∧ wx.cell? ⟨w1.heap.size, 2, none⟩ = some (.int .i64 x2) ∧ wx.cell? ⟨w1.heap.size, 3, none⟩ = some (.int .i64 x3) ∧ wx.cell? ⟨w1.heap.size, 4, none⟩ = some (.slice x4 x5 x6)) := fun wx hx => by
    have hl : w1.heap.size < (w1.alloc (.cells #[.int .i64 x0, .int .i64 x1, .int .i64 x2, .int .i64 x3, .slice x4 x5 x6] 28)).heap.size := by simp
    exact ⟨((bcell hx).1 _ _ hl).trans (by simp), ((bcell hx).1 _ _ hl).trans (by simp), ((bcell hx).1 _ _ hl).trans (by simp), ((bcell hx).1 _ _ hl).trans (by simp), ((bcell hx).1 _ _ hl).trans (by simp)⟩
  clear hb' k0
  go_wp2_with fail
  refine (HRe.out _ HB.out.1).mono ?_
  rintro r w2 ⟨rfl, hb2⟩
  have HB2 : Hid (Below w.heap.size w w2 ∧ Below (w1.alloc (.cells #[.int .i64 x0, .int .i64 x1, .int .i64 x2, .int .i64 x3, .slice x4 x5 x6] 28)).heap.size (w1.alloc (.cells #[.int .i64 x0, .int .i64 x1, .int .i64 x2, .int .i64 x3, .slice x4 x5 x6] 28)) w2) := ⟨bel_up' HB.out.1 hb2, hb2⟩
  clear hb2
  go_wp2_with fail
  refine (HRa.out _ HB2.out.1).mono ?_
  rintro r w3 ⟨rfl, hb2⟩
  have HB3 : Hid (Below w.heap.size w w3 ∧ Below (w1.alloc (.cells #[.int .i64 x0, .int .i64 x1, .int .i64 x2, .int .i64 x3, .slice x4 x5 x6] 28)).heap.size (w1.alloc (.cells #[.int .i64 x0, .int .i64 x1, .int .i64 x2, .int .i64 x3, .slice x4 x5 x6] 28)) w3) := ⟨bel_up' HB2.out.1 hb2, bel_up' HB2.out.2 hb2⟩
  clear hb2
  go_wp2_with fail
  refine (HNu.out _ HB3.out.1).mono ?_
  rintro r w4 ⟨rfl, hb2⟩
  have HB4 : Hid (Below w.heap.size w w4 ∧ Below (w1.alloc (.cells #[.int .i64 x0, .int .i64 x1, .int .i64 x2, .int .i64 x3, .slice x4 x5 x6] 28)).heap.size (w1.alloc (.cells #[.int .i64 x0, .int .i64 x1, .int .i64 x2, .int .i64 x3, .slice x4 x5 x6] 28)) w4) := ⟨bel_up' HB3.out.1 hb2, bel_up' HB3.out.2 hb2⟩
  clear hb2
  go_wp2_with (first
    | (go_at_call 15; refine (lists_err2 e HE.out _ _ _ _).mono ?_; rintro r w' ⟨rfl, hw⟩; have hw := hw.symm; subst hw)
    | (go_at_call 59; refine (list_err2 e HE.out _ _ _ _).mono ?_; rintro r w' ⟨rfl, hw⟩; have hw := hw.symm; subst hw)
    | (go_at_call 60; refine (num_err e HE.out _ _).mono ?_; rintro r w' ⟨rfl, hw⟩; have hw := hw.symm; subst hw)
    | fail)
  refine (HSo.out _ HB4.out.1).mono ?_
  rintro r w5 ⟨rfl, hb2⟩
  have HB5 : Hid (Below w.heap.size w w5 ∧ Below (w1.alloc (.cells #[.int .i64 x0, .int .i64 x1, .int .i64 x2, .int .i64 x3, .slice x4 x5 x6] 28)).heap.size (w1.alloc (.cells #[.int .i64 x0, .int .i64 x1, .int .i64 x2, .int .i64 x3, .slice x4 x5 x6] 28)) w5) := ⟨bel_up' HB4.out.1 hb2, bel_up' HB4.out.2 hb2⟩
  clear hb2
  go_wp2_with fail
  refine (same_any (la := []) (lb := []) (Or.inl ⟨rfl, _, _, rfl⟩) (Or.inl ⟨rfl, _, _, rfl⟩)).mono ?_
  rintro r w6 ⟨rfl, d, rfl⟩
  have hdec : decide (([] : List Int) = []) = true := rfl
  rw [hdec]
  have hbd : Below w5.heap.size w5 (w5.drewN d) := ⟨rfl, rfl, rfl, Nat.le_refl _, fun _ _ => rfl⟩
  have HB6 : Hid (Below w.heap.size w (w5.drewN d)) := bel_up' HB5.out.1 hbd
  obtain ⟨k0, k1, k2, k3, k4⟩ := HX.out _ (bel_up' HB5.out.2 hbd)
  clear hdec hbd
  go_wp2_with fail
  refine (inverse_err q e HE.out x0 x1 x2 x3 x4 x5 x6 0 (fun wx hx => HIn.out wx (bel_up' HB6.out hx))).mono ?_
  rintro r w7 ⟨rfl, hb7⟩
  have HB7 : Hid (Below w.heap.size w w7) := bel_up' HB6.out hb7
  clear hb7
  go_wp2
  go_ret
  exact ⟨rfl, HB7.out⟩
end Go.Proofs.Ytbpeahhhkcljeaa
