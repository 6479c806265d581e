/- CodeSays: the words of a code. -/
import Derived.Test.YtmbglikcanchbabZI24
namespace Go.Proofs.Ytmbglikcanchbab
open Go.RowKit Go.Sort

theorem three_codes (q1 n1 q2 n2 q3 n3 : Int) (v1 v2 v3 : Value) (w : World) : ∀ w0, w0 = ((w.alloc (.cells #[.int .i64 q1, .int .i64 n1, v1] 33)).alloc (.cells #[.int .i64 q2, .int .i64 n2, v2] 33)).alloc (.cells #[.int .i64 q3, .int .i64 n3, v3] 33) → Below w.heap.size w w0 ∧ CB w.heap.size q1 n1 v1 w0 ∧ CB (w.heap.size + 1) q2 n2 v2 w0 ∧ CB (w.heap.size + 1 + 1) q3 n3 v3 w0 ∧ w0.heap.size = w.heap.size + 3 := by
  rintro w0 rfl
  obtain ⟨h1, h2, h3, h4⟩ := two_boxes q1 n1 q2 n2 v1 v2 w
  have h5 := CB.new q3 n3 v3 ((w.alloc (.cells #[.int .i64 q1, .int .i64 n1, v1] 33)).alloc (.cells #[.int .i64 q2, .int .i64 n2, v2] 33))
  rw [h4] at h5
  have hbl : Below ((w.alloc (.cells #[.int .i64 q1, .int .i64 n1, v1] 33)).alloc (.cells #[.int .i64 q2, .int .i64 n2, v2] 33)).heap.size ((w.alloc (.cells #[.int .i64 q1, .int .i64 n1, v1] 33)).alloc (.cells #[.int .i64 q2, .int .i64 n2, v2] 33)) (((w.alloc (.cells #[.int .i64 q1, .int .i64 n1, v1] 33)).alloc (.cells #[.int .i64 q2, .int .i64 n2, v2] 33)).alloc (.cells #[.int .i64 q3, .int .i64 n3, v3] 33)) := (Below.refl _ _).alloc (Nat.le_refl _) _
  exact ⟨bel_up' h1 hbl, h2.keep hbl, h3.keep hbl, h5, by simp⟩

set_option maxHeartbeats 8000000 in
set_option maxRecDepth 100000 in
theorem codeWord_err (e : Int) (he : e ≠ 0) (q n : Int) {ao yo zo : Option Addr} {m ca my cy mz cz : Nat} {w : World}
    (hFl : ∀ wx, Calls Try.prog 43 #[.int .i64 q] wx fun x w' => ∃ (a0 a1 a2 a3 : Int) (fo : Option Addr) (fl fc : Nat) (er : Int), x = .returned (.tuple #[.agg #[.int .i64 a0, .int .i64 a1, .int .i64 a2, .int .i64 a3, .slice fo fl fc], .int .i64 er]) ∧ Below wx.heap.size wx w')
    (hE : ∀ wx, Below w.heap.size w wx → Calls Try.prog 63 #[.agg #[.int .i64 q, .int .i64 n, .slice ao m ca], .slice yo my cy] wx fun x w' => x = .returned (.tuple #[.slice none 0 0, .int .i64 e]) ∧ Below wx.heap.size wx w')
    (hS : ∀ wx, Below w.heap.size w wx → Calls Try.prog 65 #[.agg #[.int .i64 q, .int .i64 n, .slice ao m ca], .slice zo mz cz] wx fun x w' => x = .returned (.tuple #[.slice none 0 0, .int .i64 e]) ∧ Below wx.heap.size wx w')
    (hH : ∀ wx, Below w.heap.size w wx → Calls Try.prog 66 #[.agg #[.int .i64 q, .int .i64 n, .slice ao m ca], .slice zo mz cz] wx fun x w' => x = .returned (.tuple #[.bool false, .int .i64 e]) ∧ Below wx.heap.size wx w') :
    Calls Try.prog 25 #[.agg #[.int .i64 q, .int .i64 n, .slice ao m ca], .agg #[.int .i64 0, .int .i64 0, .slice none 0 0], .agg #[.int .i64 0, .int .i64 0, .slice none 0 0], .slice yo my cy, .slice zo mz cz, .int .i64 e] w fun r w' => r = .returned (.bool true) ∧ Below w.heap.size w w' := by
  obtain ⟨w0, hw0⟩ : ∃ w0, w0 = ((w.alloc (.cells #[.int .i64 q, .int .i64 n, .slice ao m ca] 33)).alloc (.cells #[.int .i64 0, .int .i64 0, .slice none 0 0] 33)).alloc (.cells #[.int .i64 0, .int .i64 0, .slice none 0 0] 33) := ⟨_, rfl⟩
  have HW : Hid (Below w.heap.size w w0 ∧ CB w.heap.size q n (.slice ao m ca) w0 ∧ CB (w.heap.size + 1 + 1) 0 0 (.slice none 0 0) w0) := by
    obtain ⟨h1, h2, h3, h4, h5⟩ := three_codes q n 0 0 0 0 (.slice ao m ca) (.slice none 0 0) (.slice none 0 0) w w0 hw0
    exact ⟨h1, h2, h4⟩
  have HFl : Hid _ := hFl
  have HE : Hid _ := hE
  have HS : Hid _ := hS
  have HH : Hid _ := hH
  have HN : Hid (e ≠ 0) := he
  have hz : (e == 0) = false := by rw [beq_eq_false_iff_ne]; exact he
  have hz2 : (e == e) = true := by simp
  clear he hFl hE hS hH
  go_enter Try.func25, Try.ntmps25
  go_wp2_with fail
  rw [← hw0]
  clear hw0
  refine (HFl.out _).mono ?_
  rintro x w1 ⟨a0, a1, a2, a3, fo, fl, fc, er, rfl, hb1⟩
  obtain ⟨wa, hwa⟩ : ∃ wa, wa = w1.alloc (.cells #[.int .i64 a0, .int .i64 a1, .int .i64 a2, .int .i64 a3, .slice fo fl fc] 65) := ⟨_, rfl⟩
  have HA : Hid (Below w.heap.size w wa ∧ CB w.heap.size q n (.slice ao m ca) wa ∧ CB (w.heap.size + 1 + 1) 0 0 (.slice none 0 0) wa) := by
    have hb : Below w1.heap.size w1 wa := by rw [hwa]; exact (Below.refl _ _).alloc (Nat.le_refl _) _
    have hbb := bel_up' hb1 hb
    exact ⟨bel_up' HW.out.1 hbb, HW.out.2.1.keep hbb, HW.out.2.2.keep hbb⟩
  obtain ⟨p0, p1, p2⟩ := HW.out.2.1.keep hb1
  have hlt0 : w.heap.size < w1.heap.size := cell_lt p0
  clear hb1
  go_wp2_with fail
  rw [← hwa]
  clear hwa p0 p1 p2
  refine (HE.out _ HA.out.1).mono ?_
  rintro x w2 ⟨rfl, hb2⟩
  have H2 : Hid (Below w.heap.size w w2 ∧ CB w.heap.size q n (.slice ao m ca) w2 ∧ CB (w.heap.size + 1 + 1) 0 0 (.slice none 0 0) w2) := ⟨bel_up' HA.out.1 hb2, HA.out.2.1.keep hb2, HA.out.2.2.keep hb2⟩
  clear hb2
  go_wp2_with fail
  refine (list_err2 e HN.out none 0 (.slice none 0 0) w2).mono ?_
  rintro x w' ⟨rfl, hw⟩
  have hw := hw.symm
  subst hw
  go_wp2_with fail
  obtain ⟨p0, p1, p2⟩ := H2.out.2.1
  obtain ⟨s0, s1, s2⟩ := H2.out.2.2
  refine wp_loop_rounds 1 ?_
  rw [rounds_succ]
  go_wp2_with fail
  refine (HS.out _ H2.out.1).mono ?_
  rintro x w3 ⟨rfl, hb3⟩
  have H3 : Hid (Below w.heap.size w w3 ∧ CB w.heap.size q n (.slice ao m ca) w3) := ⟨bel_up' H2.out.1 hb3, H2.out.2.1.keep hb3⟩
  clear hb3 p0 p1 p2 s0 s1 s2
  obtain ⟨p0, p1, p2⟩ := H3.out.2
  go_wp2_with fail
  refine (HH.out _ H3.out.1).mono ?_
  rintro x w4 ⟨rfl, hb4⟩
  have H4 : Hid (Below w.heap.size w w4) := bel_up' H3.out.1 hb4
  clear hb4 p0 p1 p2
  go_wp2_with fail
  refine (list_err2 e HN.out none 0 (.slice none 0 0) w4).mono ?_
  rintro x w' ⟨rfl, hw⟩
  have hw := hw.symm
  subst hw
  go_wp2
  go_ret
  exact ⟨by first | rfl | simp [go_sem], H4.out⟩
end Go.Proofs.Ytmbglikcanchbab
